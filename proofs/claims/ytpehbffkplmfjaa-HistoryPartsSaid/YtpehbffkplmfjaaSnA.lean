/- Snapshots in a block; contracts of overlap and misses. Contract of lastBefore. Contract of snapshotsOf. Contract of pairs: any closure of two pointers, by an invariant. Contract of allowed. Contract of allowed. Contract of the closure of edges. Contract of (*snapshots).edges. Contracts of Snapshot and SnapshotOrder. Contract of SnapshotOrder. -/
import Derived.Test.YtpehbffkplmfjaaOwn
import Derived.BigQuiet
import Derived.Test.YtpehbffkplmfjaaClo
import Derived.Test.YtpehbffkplmfjaaCom
import Derived.Test.YtpehbffkplmfjaaOrd
namespace Go.Proofs.Ytpehbffkplmfjaa
open Go.RowKit
/-- the cells of snapshots: lives, the sets of what is written, of what is read from others, the committed transactions -/
def snF (h : List NOp) (W F : Nat → Nat) (v : Value) (j : Nat) : Value :=
  if j < 21 then lvF h h.length j else if j < 28 then .int .i64 (W (j - 21) : Nat) else if j < 35 then .int .i64 (F (j - 28) : Nat) else v
def SnB (w : World) (b : Nat) (h : List NOp) (W F : Nat → Nat) (v : Value) : Prop := Blk w b 97 36 (snF h W F v)
theorem SnB.life {w : World} {b : Nat} {h : List NOp} {W F : Nat → Nat} {v : Value} (s : SnB w b h W F v) {j : Nat} (hj : j < 21) : w.cell? ⟨b, j, none⟩ = some (.int .i64 (lv h h.length j : Nat)) := by
  rw [Blk.at s (show j < 36 by omega)]
  unfold snF
  rw [if_pos hj]; rfl
theorem SnB.wr {w : World} {b : Nat} {h : List NOp} {W F : Nat → Nat} {v : Value} (s : SnB w b h W F v) {t : Nat} (ht : t < 7) : w.cell? ⟨b, 21 + t, none⟩ = some (.int .i64 (W t : Nat)) := by
  rw [Blk.at s (show 21 + t < 36 by omega)]
  unfold snF
  rw [if_neg (by omega), if_pos (by omega), show 21 + t - 21 = t by omega]
theorem SnB.fo {w : World} {b : Nat} {h : List NOp} {W F : Nat → Nat} {v : Value} (s : SnB w b h W F v) {t : Nat} (ht : t < 7) : w.cell? ⟨b, 28 + t, none⟩ = some (.int .i64 (F t : Nat)) := by
  rw [Blk.at s (show 28 + t < 36 by omega)]
  unfold snF
  rw [if_neg (by omega), if_neg (by omega), if_pos (by omega), show 28 + t - 28 = t by omega]
theorem SnB.li {w : World} {b : Nat} {h : List NOp} {W F : Nat → Nat} {v : Value} (s : SnB w b h W F v) : w.cell? ⟨b, 35, none⟩ = some v := by
  rw [Blk.at s (show 35 < 36 by omega)]; rfl
theorem SnB.drewN {w : World} {b : Nat} {h : List NOp} {W F : Nat → Nat} {v : Value} (s : SnB w b h W F v) (q : Nat) : SnB (w.drewN q) b h W F v := s
/-- two committed transactions overlap -/
def Ovl (h : List NOp) (a c : Nat) : Prop := lv h h.length a < lv h h.length (7 + c) ∧ lv h h.length c < lv h h.length (7 + a)
instance (h : List NOp) (a c : Nat) : Decidable (Ovl h a c) := inferInstanceAs (Decidable (_ ∧ _))
set_option maxRecDepth 100000 in
set_option maxHeartbeats 4000000 in
theorem overlap_any {w : World} {b : Nat} {h : List NOp} {W F : Nat → Nat} {v : Value} (s : SnB w b h W F v) {a c : Nat} (ha : a < 7) (hc : c < 7) (B : Bool) (hB : decide (Ovl h a c) = B) :
    Calls Try.prog 71 #[.pointer (some ⟨b, 0, none⟩), .int .i64 a, .int .i64 c] w fun e w' => e = .returned (.bool B) ∧ ∃ m, w' = w.drewN m := by
  have c1 := s.life (show a < 21 by omega)
  have c2 := s.life (show 7 + c < 21 by omega)
  have c3 := s.life (show c < 21 by omega)
  have c4 := s.life (show 7 + a < 21 by omega)
  obtain ⟨p1, h1⟩ : ∃ p, p = lv h h.length a := ⟨_, rfl⟩
  obtain ⟨p2, h2⟩ : ∃ p, p = lv h h.length (7 + c) := ⟨_, rfl⟩
  obtain ⟨p3, h3⟩ : ∃ p, p = lv h h.length c := ⟨_, rfl⟩
  obtain ⟨p4, h4⟩ : ∃ p, p = lv h h.length (7 + a) := ⟨_, rfl⟩
  have HB := Lib.hid (show decide (p1 < p2 ∧ p3 < p4) = B from by rw [← hB]; exact decide_eq_decide.2 (by rw [h1, h2, h3, h4]; exact Iff.rfl))
  rw [← h1] at c1
  rw [← h2] at c2
  rw [← h3] at c3
  rw [← h4] at c4
  have ha7 : (a : Int) < 7 := by omega
  have ha0 : (0 : Int) ≤ (a : Int) := by omega
  have hc7 : (c : Int) < 7 := by omega
  have hc0 : (0 : Int) ≤ (c : Int) := by omega
  clear h1 h2 h3 h4 hB ha hc s
  by_cases q1 : p1 < p2
  · have d1 : decide ((p1 : Int) < (p2 : Int)) = true := decide_eq_true (by omega)
    have d1' : decide (p1 < p2) = true := decide_eq_true q1
    have HR := Lib.hid (show decide (p3 < p4) = B from by
      rw [← HB.out]; exact decide_eq_decide.2 ⟨fun x => ⟨q1, x⟩, fun x => x.2⟩)
    obtain ⟨D, hD⟩ : ∃ D, D = decide (p3 < p4) := ⟨_, rfl⟩
    have d2 : decide ((p3 : Int) < (p4 : Int)) = D := by rw [hD]; exact decide_eq_decide.2 (by omega)
    have d2' : decide (p3 < p4) = D := hD.symm
    have HR2 := Lib.hid (show D = B from by rw [hD]; exact HR.out)
    clear q1 HB HR hD
    go_enter Try.func71, Try.ntmps71
    go_wp2_with fail
    go_quiet (fail)
    go_wp2_with fail
    go_ret
    exact ⟨by rw [← HR2.out]; rfl, nq, rfl⟩
  · have d1 : decide ((p1 : Int) < (p2 : Int)) = false := decide_eq_false (by omega)
    have d1' : decide (p1 < p2) = false := decide_eq_false q1
    have HR2 := Lib.hid (show false = B from by rw [← HB.out]; exact (decide_eq_false (fun x => q1 x.1)).symm)
    clear q1 HB
    go_enter Try.func71, Try.ntmps71
    go_wp2_with fail
    go_quiet (fail)
    go_wp2_with fail
    go_ret
    exact ⟨by rw [← HR2.out]; rfl, nq, rfl⟩
/-- a reads an item, but not what c wrote there -/
def Mis (h : List NOp) (W F : Nat → Nat) (a c : Nat) : Prop := F a &&& W c ≠ 0 ∧ lv h h.length a < lv h h.length (7 + c)
instance (h : List NOp) (W F : Nat → Nat) (a c : Nat) : Decidable (Mis h W F a c) := inferInstanceAs (Decidable (_ ∧ _))
set_option maxRecDepth 100000 in
set_option maxHeartbeats 4000000 in
theorem misses_any {w : World} {b : Nat} {h : List NOp} {W F : Nat → Nat} {v : Value} (s : SnB w b h W F v) {a c : Nat} (ha : a < 7) (hc : c < 7) (hF : F a < 128) (hW : W c < 128) (B : Bool) (hB : decide (Mis h W F a c) = B) :
    Calls Try.prog 72 #[.pointer (some ⟨b, 0, none⟩), .int .i64 a, .int .i64 c] w fun e w' => e = .returned (.bool B) ∧ ∃ m, w' = w.drewN m := by
  have c1 := s.fo ha
  have c2 := s.wr hc
  have c3 := s.life (show 7 + c < 21 by omega)
  have c4 := s.life (show a < 21 by omega)
  have hand := bits_and_nat (F a) (W c) (by omega) (by omega)
  obtain ⟨f, h1⟩ : ∃ p, p = F a := ⟨_, rfl⟩
  obtain ⟨g, h2⟩ : ∃ p, p = W c := ⟨_, rfl⟩
  obtain ⟨p3, h3⟩ : ∃ p, p = lv h h.length (7 + c) := ⟨_, rfl⟩
  obtain ⟨p4, h4⟩ : ∃ p, p = lv h h.length a := ⟨_, rfl⟩
  obtain ⟨z, hz⟩ : ∃ z, z = f &&& g := ⟨_, rfl⟩
  have HB := Lib.hid (show decide (z ≠ 0 ∧ p4 < p3) = B from by rw [← hB]; exact decide_eq_decide.2 (by rw [hz, h1, h2, h3, h4]; exact Iff.rfl))
  rw [← h1] at c1
  rw [← h2] at c2
  rw [← h3] at c3
  rw [← h4] at c4
  rw [← h1, ← h2, ← hz] at hand
  have ha7 : (a : Int) < 7 := by omega
  have ha0 : (0 : Int) ≤ (a : Int) := by omega
  have hc7 : (c : Int) < 7 := by omega
  have hc0 : (0 : Int) ≤ (c : Int) := by omega
  clear h1 h2 h3 h4 hB ha hc s hz hF hW
  by_cases q1 : z = 0
  · have d1 : ((z : Int) != 0) = false := by rw [bne_eq_false_iff_eq]; omega
    have HR2 := Lib.hid (show false = B from by rw [← HB.out]; exact (decide_eq_false (fun x => x.1 q1)).symm)
    clear q1 HB
    go_enter Try.func72, Try.ntmps72
    go_wp2_with fail
    go_quiet (fail)
    go_wp2_with fail
    go_ret
    exact ⟨by rw [← HR2.out]; rfl, nq, rfl⟩
  · have d1 : ((z : Int) != 0) = true := by rw [bne_iff_ne]; omega
    obtain ⟨D, hD⟩ : ∃ D, D = decide (p4 < p3) := ⟨_, rfl⟩
    have d2 : decide ((p4 : Int) < (p3 : Int)) = D := by rw [hD]; exact decide_eq_decide.2 (by omega)
    have d2' : decide (p4 < p3) = D := hD.symm
    have HR2 := Lib.hid (show D = B from by rw [hD, ← HB.out]; exact decide_eq_decide.2 ⟨fun x => ⟨q1, x⟩, fun x => x.2⟩)
    clear q1 HB hD
    go_enter Try.func72, Try.ntmps72
    go_wp2_with fail
    go_quiet (fail)
    go_wp2_with fail
    go_ret
    exact ⟨by rw [← HR2.out]; rfl, nq, rfl⟩
#print axioms misses_any
#print axioms overlap_any
/-- whether t comes in last's place: it writes the item, and committed before i, behind last -/
def LbC (h : List NOp) (W : Nat → Nat) (item i last t : Nat) : Prop := (W t).testBit item = true ∧ lv h h.length (7 + t) < i ∧ (last = 0 ∨ lv h h.length (7 + last) < lv h h.length (7 + t))
instance (h : List NOp) (W : Nat → Nat) (item i last t : Nat) : Decidable (LbC h W item i last t) := inferInstanceAs (Decidable (_ ∧ _ ∧ _))
def lbTo (h : List NOp) (W : Nat → Nat) (item i : Nat) (l : List Nat) : Nat → Nat
  | 0 => 0
  | k + 1 => if LbC h W item i (lbTo h W item i l k) (l.getD k 0) then l.getD k 0 else lbTo h W item i l k
theorem lb_lt {h : List NOp} {W : Nat → Nat} {item i : Nat} {l : List Nat} (h7 : ∀ x, x ∈ l → x < 7) : ∀ k, k ≤ l.length → lbTo h W item i l k < 7
  | 0, _ => by rw [lbTo]; omega
  | k + 1, hk => by
    rw [lbTo]
    split
    · exact h7 _ (getD_mem (by omega))
    · exact lb_lt h7 k (by omega)
set_option maxRecDepth 100000 in
set_option maxHeartbeats 8000000 in
theorem lastBefore_any {w : World} {b : Nat} {h : List NOp} {W F : Nat → Nat} {l : List Nat} {v : Value} (s : SnB w b h W F v) (hl : Ints w v (castN l)) (h7 : ∀ x, x ∈ l → x < 7) (hW : ∀ x, W x < 128) (hln : l.length ≤ 7) {item : Nat} (hit : item < 6) (i : Nat) :
    Calls Try.prog 113 #[.pointer (some ⟨b, 0, none⟩), .int .i64 item, .int .i64 i] w fun e w' => e = .returned (.int .i64 (lbTo h W item i l l.length : Nat)) ∧ ∃ m, w' = w.drewN m := by
  obtain ⟨a4, b4, off4, cap4, rfl, hle, ha4, hc4⟩ := IntsN.get hl
  have hix := run_ix (P := Try.prog) (t := 24) (a := a4) (len := l.length) (cap := cap4) (b := b4) (off := off4) (s := 1) Try.underlying24 (by intro w; kernel_rfl) ha4
  simp only [Nat.mul_one] at hix
  have Hix := Lib.hid hix
  have Hc4 := Lib.hid hc4
  have Hs := Lib.hid s
  have H7 := Lib.hid h7
  have HW := Lib.hid hW
  have Hlb := Lib.hid (lb_lt (h := h) (W := W) (item := item) (i := i) h7)
  have Hst := Lib.hid (show ∀ k, lbTo h W item i l (k + 1) = if LbC h W item i (lbTo h W item i l k) (l.getD k 0) then l.getD k 0 else lbTo h W item i l k from fun k => rfl)
  have hli := s.li
  obtain ⟨P, hP, p1, p2, p3⟩ := pow_name item (by omega)
  have hti : (item : Int) < 64 := by omega
  have ht0 : (0 : Int) ≤ (item : Int) := by omega
  have H0 := Lib.hid (show lbTo h W item i l 0 = 0 from rfl)
  obtain ⟨L, hL⟩ : ∃ L, L = lbTo h W item i l := ⟨_, rfl⟩
  rw [← hL] at Hlb Hst H0 ⊢
  clear hL hix hc4 ha4 hle s h7 hW hl hP
  go_enter Try.func113, Try.ntmps113
  go_wp2_with fail
  go_loopw [7, 15] (fun o vk wr => ∃ k : Nat, vk = .int .i64 k ∧ k ≤ l.length ∧ o = .int .i64 (L k : Nat) ∧ ∃ m, wr = w.drewN m) (fun _ vk _ => l.length - (intOf vk).toNat)
  case atStart => exact ⟨0, rfl, Nat.zero_le _, by rw [H0.out]; rfl, 0, rfl⟩
  case round =>
    obtain ⟨k, rfl, hk, rfl, m, rfl⟩ := hrel
    by_cases hlt : k < l.length
    · have hck : (w.drewN m).cell? ⟨b4, off4 + k, none⟩ = some (.int .i64 (l.getD k 0 : Nat)) := Hc4.out k hlt
      have hixk := Hix.out k
      have ht7 := H7.out _ (getD_mem hlt)
      have hl7 := Hlb.out k hk
      have HS := Lib.hid (Hst.out k)
      obtain ⟨t, ht⟩ : ∃ t, t = l.getD k 0 := ⟨_, rfl⟩
      obtain ⟨la, hla⟩ : ∃ la, la = L k := ⟨_, rfl⟩
      rw [← ht] at hck ht7 HS
      rw [← hla] at hl7 HS ⊢
      obtain ⟨w5, hw5⟩ : ∃ w5, w5 = w.drewN m := ⟨_, rfl⟩
      have s5 : SnB w5 b h W F (.slice a4 l.length cap4) := by rw [hw5]; exact Hs.out.drewN m
      have Hw5 := Lib.hid hw5
      rw [← hw5] at hck ⊢
      have c1 := s5.wr ht7
      have c2 := s5.life (show 7 + t < 21 by omega)
      have c3 := s5.life (show 7 + la < 21 by omega)
      have t1 := shr_bit (W t) item (by have := HW.out t; omega)
      rw [p1] at t1
      obtain ⟨g, hg⟩ : ∃ g, g = W t := ⟨_, rfl⟩
      obtain ⟨q1, hq1⟩ : ∃ q, q = lv h h.length (7 + t) := ⟨_, rfl⟩
      obtain ⟨q2, hq2⟩ : ∃ q, q = lv h h.length (7 + la) := ⟨_, rfl⟩
      have HL := Lib.hid (show LbC h W item i la t ↔ g.testBit item = true ∧ q1 < i ∧ (la = 0 ∨ q2 < q1) from by rw [hg, hq1, hq2]; exact Iff.rfl)
      rw [← hg] at c1 t1
      rw [← hq1] at c2
      rw [← hq2] at c3
      have hta : (t : Int) < 7 := by omega
      have htb : (0 : Int) ≤ (t : Int) := by omega
      have hla7 : (la : Int) < 7 := by omega
      have hla0 : (0 : Int) ≤ (la : Int) := by omega
      clear ht hla hw5 s5 hg hq1 hq2 ht7 hl7
      obtain ⟨X, hX⟩ : ∃ X, X = decide (g.testBit item = true ∧ q1 < i ∧ (la = 0 ∨ q2 < q1)) := ⟨_, rfl⟩
      have HX := Lib.hid hX
      clear hX
      go_upto_region 5 with fail
      go_cut [60] from 19 to 60 (fun o wx => o = .bool X ∧ ∃ q, wx = w5.drewN q)
      case first =>
        cases hb : g.testBit item with
        | false =>
          have R := Lib.hid (show X = false by rw [HX.out]; exact decide_eq_false (fun q => by rw [hb] at q; cases q.1))
          simp only [hb, Bool.false_eq_true, if_false] at t1
          go_quiet (fail)
          go_wp2_with fail
          go_meet
          exact ⟨by rw [R.out], nq, rfl⟩
        | true =>
          simp only [hb, if_true] at t1
          by_cases e1 : q1 < i
          · have d1 : decide ((q1 : Int) < (i : Int)) = true := decide_eq_true (by omega)
            have d1' : decide (q1 < i) = true := decide_eq_true e1
            by_cases e2 : la = 0
            · have R := Lib.hid (show X = true by rw [HX.out]; exact decide_eq_true ⟨hb, e1, .inl e2⟩)
              have d2 : ((la : Int) == 0) = true := by rw [beq_iff_eq]; omega
              clear e1 e2
              go_quiet (fail)
              go_wp2_with fail
              go_meet
              exact ⟨by rw [R.out], nq, rfl⟩
            · have d2 : ((la : Int) == 0) = false := by rw [beq_eq_false_iff_ne]; omega
              obtain ⟨D, hD⟩ : ∃ D, D = decide (q2 < q1) := ⟨_, rfl⟩
              have d3 : decide ((q2 : Int) < (q1 : Int)) = D := by rw [hD]; exact decide_eq_decide.2 (by omega)
              have d3' : decide (q2 < q1) = D := hD.symm
              have R := Lib.hid (show X = D by rw [HX.out, hD]; exact decide_eq_decide.2 ⟨fun q => q.2.2.resolve_left e2, fun q => ⟨hb, e1, .inr q⟩⟩)
              clear e1 e2 hD
              go_quiet (fail)
              go_wp2_with fail
              go_meet
              exact ⟨by rw [R.out], nq, rfl⟩
          · have R := Lib.hid (show X = false by rw [HX.out]; exact decide_eq_false (fun q => e1 q.2.1))
            have d1 : decide ((q1 : Int) < (i : Int)) = false := decide_eq_false (by omega)
            have d1' : decide (q1 < i) = false := decide_eq_false e1
            clear e1
            go_quiet (fail)
            go_wp2_with fail
            go_meet
            exact ⟨by rw [R.out], nq, rfl⟩
      case rest =>
        obtain ⟨rfl, q, hwq⟩ := hcut
        have Hwq := Lib.hid (show wc = w.drewN (m + q) from by rw [hwq, Hw5.out, World.drewN_drewN])
        clear hwq hck c1 c2 c3 t1 hixk
        cases X with
        | true =>
          have R := Lib.hid (HS.out.trans (if_pos (HL.out.2 (of_decide_eq_true HX.out.symm))))
          go_wp2_with fail
          go_roundw
          case rel => exact ⟨k + 1, by go_num, by omega, by rw [R.out], _, Hwq.out⟩
          case measure => simp [intOf]; omega
        | false =>
          have R := Lib.hid (HS.out.trans (if_neg (fun q => of_decide_eq_false HX.out.symm (HL.out.1 q))))
          go_wp2_with fail
          go_roundw
          case rel => exact ⟨k + 1, by go_num, by omega, by rw [R.out], _, Hwq.out⟩
          case measure => simp [intOf]; omega
    · obtain rfl : k = l.length := by omega
      go_wp2_with fail
      go_ret
      exact ⟨rfl, m, rfl⟩
/-- c reads what a wrote -/
def rdB (h : List NOp) (W F : Nat → Nat) (l : List Nat) (a c : Nat) : Bool := (List.range 6).any fun it => (F c).testBit it && decide (lbTo h W it (lv h h.length c) l l.length = a)
set_option maxRecDepth 100000 in
set_option maxHeartbeats 8000000 in
theorem reads_any {w : World} {b : Nat} {h : List NOp} {W F : Nat → Nat} {l : List Nat} {v : Value} (s : SnB w b h W F v) (hl : Ints w v (castN l)) (h7 : ∀ x, x ∈ l → x < 7) (hW : ∀ x, W x < 128) (hF : ∀ x, F x < 128) (hln : l.length ≤ 7) {a c : Nat} (hc : c < 7) (B : Bool) (hB : rdB h W F l a c = B) :
    Calls Try.prog 101 #[.pointer (some ⟨b, 0, none⟩), .int .i64 a, .int .i64 c] w fun e w' => e = .returned (.bool B) ∧ ∃ m, w' = w.drewN m := by
  have HL := Lib.hid (fun (m it : Nat) (hit : it < 6) => lastBefore_any (s.drewN m) (Ints.keep hl (bdrewN (Below.refl _ _) m)) h7 hW hln hit (lv h h.length c))
  have Hs := Lib.hid s
  have hg := hF c
  have HBt := Lib.hid (fun (it : Nat) (hit : it < 6) (h1 : (F c).testBit it = true) (h2 : lbTo h W it (lv h h.length c) l l.length = a) => show B = true from by
    rw [← hB]; unfold rdB; rw [List.any_eq_true]
    exact ⟨it, List.mem_range.2 hit, by rw [h1, decide_eq_true h2]; rfl⟩)
  have HBf := Lib.hid (fun (hno : ∀ it, it < 6 → ¬ ((F c).testBit it = true ∧ lbTo h W it (lv h h.length c) l l.length = a)) => show B = false from by
    rw [← hB]; unfold rdB; rw [List.any_eq_false]
    intro it hit q
    rw [Bool.and_eq_true, decide_eq_true_eq] at q
    exact hno it (List.mem_range.1 hit) q)
  obtain ⟨p, hp⟩ : ∃ p, p = lv h h.length c := ⟨_, rfl⟩
  obtain ⟨g, hgg⟩ : ∃ g, g = F c := ⟨_, rfl⟩
  have Hc1 := Lib.hid (fun m => show (w.drewN m).cell? ⟨b, c, none⟩ = some (.int .i64 (p : Nat)) from by rw [hp]; exact (Hs.out.drewN m).life (by omega))
  have Hc2 := Lib.hid (fun m => show (w.drewN m).cell? ⟨b, 28 + c, none⟩ = some (.int .i64 (g : Nat)) from by rw [hgg]; exact (Hs.out.drewN m).fo hc)
  rw [← hp] at HL HBt HBf
  rw [← hgg] at HBt HBf hg
  obtain ⟨G, hG⟩ : ∃ G : Nat → Nat, G = fun it => lbTo h W it p l l.length := ⟨_, rfl⟩
  have HGe := Lib.hid (fun it => show lbTo h W it p l l.length = G it from by rw [hG])
  have hta : (c : Int) < 7 := by omega
  have htb : (0 : Int) ≤ (c : Int) := by omega
  clear hB hp hgg hG s hl h7 hW hF hln
  go_enter Try.func101, Try.ntmps101
  go_wp2_with fail
  go_loopw [8] (fun vk wr => ∃ k : Nat, vk = .int .i64 k ∧ k ≤ 6 ∧ (∃ m, wr = w.drewN m) ∧ ∀ it, it < k → ¬ (g.testBit it = true ∧ lbTo h W it p l l.length = a)) (fun vk _ => 6 - (intOf vk).toNat)
  case atStart => exact ⟨0, rfl, Nat.zero_le _, ⟨0, rfl⟩, fun it hit => by omega⟩
  case round =>
    obtain ⟨k, rfl, hk, ⟨m, rfl⟩, hno⟩ := hrel
    have Hno := Lib.hid hno
    clear hno
    by_cases hlt : k < 6
    · have HLk := Lib.hid (HL.out m k hlt)
      rw [HGe.out] at HLk
      have HBk := Lib.hid (fun (h1 : g.testBit k = true) (h2 : G k = a) => HBt.out k hlt h1 (by rw [HGe.out]; exact h2))
      have HNk := Lib.hid (fun (q : ¬ (g.testBit k = true ∧ G k = a)) => show ∀ it, it < k + 1 → ¬ (g.testBit it = true ∧ lbTo h W it p l l.length = a) from fun it hit => by
        by_cases e : it = k
        · subst e; rw [HGe.out]; exact q
        · exact Hno.out it (by omega))
      obtain ⟨w5, hw5⟩ : ∃ w5, w5 = w.drewN m := ⟨_, rfl⟩
      have c1 := Hc1.out m
      have c2 := Hc2.out m
      have Hw5 := Lib.hid hw5
      rw [← hw5] at c1 c2 HLk ⊢
      obtain ⟨P, hP, p1, p2, p3⟩ := pow_name k (by omega)
      have t1 := shr_bit g k (by omega)
      rw [p1] at t1
      have hti : (k : Int) < 64 := by omega
      have ht0 : (0 : Int) ≤ (k : Int) := by omega
      obtain ⟨z, hz⟩ : ∃ z, z = G k := ⟨_, rfl⟩
      rw [← hz] at HLk HBk HNk
      clear hw5 hP hz
      cases hb : g.testBit k with
      | false =>
        have R := Lib.hid (HNk.out (fun q => by rw [hb] at q; cases q.1))
        simp only [hb, Bool.false_eq_true, if_false] at t1
        clear hb
        go_wp2_with fail
        go_roundw
        case rel => exact ⟨k + 1, by go_num, by omega, ⟨m, Hw5.out⟩, R.out⟩
        case measure => simp [intOf]; omega
      | true =>
        simp only [hb, if_true] at t1
        by_cases e : z = a
        · have R := Lib.hid (HBk.out hb e)
          have q1 : ((z : Int) == (a : Int)) = true := by rw [beq_iff_eq]; omega
          clear hb e
          go_wp2_with fail
          refine HLk.out.mono ?_
          rintro e w6 ⟨rfl, m6, hm6⟩
          have Hm6 := Lib.hid (show w6 = w.drewN (m + m6) from by rw [hm6, Hw5.out, World.drewN_drewN])
          clear hm6
          go_wp2_with fail
          go_ret
          exact ⟨by rw [R.out]; rfl, _, Hm6.out⟩
        · have R := Lib.hid (HNk.out (fun q => e q.2))
          have q1 : ((z : Int) == (a : Int)) = false := by rw [beq_eq_false_iff_ne]; omega
          clear hb e
          go_wp2_with fail
          refine HLk.out.mono ?_
          rintro e w6 ⟨rfl, m6, hm6⟩
          have Hm6 := Lib.hid (show w6 = w.drewN (m + m6) from by rw [hm6, Hw5.out, World.drewN_drewN])
          clear hm6
          go_wp2_with fail
          go_roundw
          case rel => exact ⟨k + 1, by go_num, by omega, ⟨_, Hm6.out⟩, R.out⟩
          case measure => simp [intOf]; omega
    · obtain rfl : k = 6 := by omega
      have R := Lib.hid (HBf.out Hno.out)
      go_wp2_with fail
      go_ret
      exact ⟨by rw [R.out]; rfl, m, rfl⟩
#print axioms reads_any
#print axioms lastBefore_any
/-- the sets of what each transaction wrote among the first k operations -/
def snW (h : List NOp) : Nat → Nat → Nat
  | 0 => fun _ => 0
  | k + 1 => if tK h k = 1 then fun t => if t = tT h k then snW h k t ||| 2 ^ tI h k else snW h k t else snW h k
/-- .. and read from others -/
def snR (h : List NOp) : Nat → Nat → Nat
  | 0 => fun _ => 0
  | k + 1 => if tK h k = 0 then fun t => if t = tT h k then snR h k t ||| ndiff (2 ^ tI h k) (snW h k t) else snR h k t else snR h k
theorem wpList_load_var {P : Program} {ops : Array Oper} {rest : List Oper} {o : Oper} {a : Act} {w : World} {Q : Exit → Act → World → Prop} (hgd : o.guard = none) (ty : TypeId) (x : Operand) (ho : o.op = .load ty x)
    (p : Addr) (hx : a.eval x = .pointer (some p)) (A : Array Value) (hl : (loadVar ty p).run P w = .ok (.agg A) w) (h : wpList P ops Q rest (a.put o.dst (.agg A)) w) : wpList P ops Q (o :: rest) a w :=
  wpList_plain hgd fun K hK => by
    unfold Oper.wp execOp
    simp only [ho, hx, Instr.loadAt, Instr.sureAddr, Sem.run_bind, Sem.run_pure, Result.andThen_ok, hl]
    exact hK _ _ h
theorem load_lives {w : World} {b : Nat} {f : Nat → Value} {t : TypeId} (h : Blk w b t 36 f) : (loadVar 70 ⟨b, 0, none⟩).run Try.prog w = .ok (.agg (row 21 f)) w := by
  have hl := run_loadCells (P := Try.prog) w ⟨b, 0, none⟩ 21 f (fun j hj => by
    rw [Addr.add_lit, Nat.zero_add]
    exact Blk.at h (by omega))
  have hi : (Try.prog.info? 70).map (·.size) = some 21 := sizeLives
  cases hq : Try.prog.info? 70 with
  | none => simp [hq] at hi
  | some i =>
    have hs : i.size = 21 := by simpa [hq] using hi
    have hagg : (isAgg 70).run Try.prog w = .ok true w := by
      unfold isAgg
      rw [Sem.run_bind, run_underlying Try.underlying70 w]
      rfl
    simp [loadVar, Sem.run_bind, hagg, sizeOf, typeInfo, hq, hs, hl]
    rfl
theorem Blk.put_snW {w : World} {b : Nat} {h : List NOp} {W F : Nat → Nat} {v : Value} (s : SnB w b h W F v) {t : Nat} (ht : t < 7) (z : Nat) : SnB (w.setCell ⟨b, 21 + t, none⟩ (.int .i64 (z : Nat))) b h (fun x => if x = t then z else W x) F v := by
  refine Blk.congr (Blk.put s (21 + t) (.int .i64 (z : Nat))) fun j hj => ?_
  by_cases e : j = 21 + t
  · simp only [e, if_true]
    unfold snF
    rw [if_neg (by omega), if_pos (by omega)]
    show _ = Value.int .i64 ((if 21 + t - 21 = t then z else W (21 + t - 21) : Nat) : Int)
    rw [if_pos (by omega)]
  · simp only [e, if_false]
    unfold snF
    split
    · rfl
    · split
      · show _ = Value.int .i64 ((if j - 21 = t then z else W (j - 21) : Nat) : Int)
        rw [if_neg (by omega)]
      · rfl
theorem Blk.put_snF {w : World} {b : Nat} {h : List NOp} {W F : Nat → Nat} {v : Value} (s : SnB w b h W F v) {t : Nat} (ht : t < 7) (z : Nat) : SnB (w.setCell ⟨b, 28 + t, none⟩ (.int .i64 (z : Nat))) b h W (fun x => if x = t then z else F x) v := by
  refine Blk.congr (Blk.put s (28 + t) (.int .i64 (z : Nat))) fun j hj => ?_
  by_cases e : j = 28 + t
  · simp only [e, if_true]
    unfold snF
    rw [if_neg (by omega), if_neg (by omega), if_pos (by omega)]
    show _ = Value.int .i64 ((if 28 + t - 28 = t then z else F (28 + t - 28) : Nat) : Int)
    rw [if_pos (by omega)]
  · simp only [e, if_false]
    unfold snF
    split
    · rfl
    · split
      · rfl
      · split
        · show _ = Value.int .i64 ((if j - 28 = t then z else F (j - 28) : Nat) : Int)
          rw [if_neg (by omega)]
        · rfl
theorem SnB.put_l {w : World} {b : Nat} {h : List NOp} {W F : Nat → Nat} {v : Value} (s : SnB w b h W F v) (u : Value) : SnB (w.setCell ⟨b, 35, none⟩ u) b h W F u := by
  refine Blk.congr (Blk.put s 35 u) fun j hj => ?_
  by_cases e : j = 35
  · subst e; rfl
  · simp only [e, if_false]
    unfold snF
    split
    · rfl
    · split
      · rfl
      · rw [if_pos (by omega), if_pos (by omega)]
theorem ndiff_lt {a b : Nat} (ha : a < 128) : ndiff a b < 128 := by
  unfold ndiff
  exact Nat.xor_lt_two_pow (n := 7) ha (Nat.lt_of_le_of_lt Nat.and_le_left ha)
theorem snW_lt {h : List NOp} (hh : VH h) : ∀ k, k ≤ h.length → ∀ t, snW h k t < 128
  | 0, _, t => by simp [snW]
  | k + 1, hk, t => by
    have ih := snW_lt hh k (by omega)
    rw [snW]
    split
    · show (if t = tT h k then _ else _) < 128
      split
      · exact Nat.or_lt_two_pow (n := 7) (ih t) (Nat.pow_lt_pow_right (by decide) (show tI h k < 7 by have := (hh.x5 k (by omega)).1; omega))
      · exact ih t
    · exact ih t
theorem snR_lt {h : List NOp} (hh : VH h) : ∀ k, k ≤ h.length → ∀ t, snR h k t < 128
  | 0, _, t => by simp [snR]
  | k + 1, hk, t => by
    have ih := snR_lt hh k (by omega)
    rw [snR]
    split
    · show (if t = tT h k then _ else _) < 128
      split
      · exact Nat.or_lt_two_pow (n := 7) (ih t) (ndiff_lt (Nat.pow_lt_pow_right (by decide) (show tI h k < 7 by have := (hh.x5 k (by omega)).1; omega)))
      · exact ih t
    · exact ih t
set_option maxRecDepth 100000 in
set_option maxHeartbeats 8000000 in
theorem snapshotsOf_any {h : List NOp} (hh : VH h) (v : Value) (w : World) (hv : Ops w v (castO h)) :
    Calls Try.prog 66 #[v] w fun e w' => ∃ b u, e = .returned (.pointer (some ⟨b, 0, none⟩)) ∧ w.heap.size ≤ b ∧ SnB w' b h (snW h h.length) (snR h h.length) u ∧ Ints w' u (castN (comN h 7)) ∧ Below w.heap.size w w' := by
  have HL := Lib.hid (livesOf_any hh v w hv)
  rw [livA_eq] at HL
  have HM := Lib.hid (fun w' => committed_any h w')
  obtain ⟨a, bl, off, cap, rfl, hle, ha, hcap, hc⟩ := Ops.nat hv
  have hix := run_ix (P := Try.prog) (t := 29) (a := a) (len := h.length) (cap := cap) (b := bl) (off := off) (s := 3) Try.underlying29 (by intro w; kernel_rfl) ha
  have h40 := hh.le
  have Hc := Lib.hid hc
  have Hix := Lib.hid hix
  have HH := Lib.hid hh
  clear hc hix ha hle hcap hv hh
  go_enter Try.func66, Try.ntmps66
  go_wp2_with fail
  refine HL.out.mono ?_
  rintro e w1 ⟨rfl, hb1⟩
  have Hb1 := Lib.hid hb1
  clear hb1 HL
  have HS0 := Lib.hid (show SnB (w1.alloc (.cells #[.int .i64 (lv h h.length 0 : Nat), .int .i64 (lv h h.length 1 : Nat), .int .i64 (lv h h.length 2 : Nat), .int .i64 (lv h h.length 3 : Nat), .int .i64 (lv h h.length 4 : Nat), .int .i64 (lv h h.length 5 : Nat), .int .i64 (lv h h.length 6 : Nat), .int .i64 (lv h h.length 7 : Nat), .int .i64 (lv h h.length 8 : Nat), .int .i64 (lv h h.length 9 : Nat), .int .i64 (lv h h.length 10 : Nat), .int .i64 (lv h h.length 11 : Nat), .int .i64 (lv h h.length 12 : Nat), .int .i64 (lv h h.length 13 : Nat), .int .i64 (lv h h.length 14 : Nat), .int .i64 (lv h h.length 15 : Nat), .int .i64 (lv h h.length 16 : Nat), .int .i64 (lv h h.length 17 : Nat), .int .i64 (lv h h.length 18 : Nat), .int .i64 (lv h h.length 19 : Nat), .int .i64 (lv h h.length 20 : Nat), .int .i64 0, .int .i64 0, .int .i64 0, .int .i64 0, .int .i64 0, .int .i64 0, .int .i64 0, .int .i64 0, .int .i64 0, .int .i64 0, .int .i64 0, .int .i64 0, .int .i64 0, .int .i64 0, .slice none 0 0] 97)) w1.heap.size h (snW h 0) (snR h 0) (.slice none 0 0) from blk_new w1 97 36 (snF h (fun _ => 0) (fun _ => 0) (.slice none 0 0)))
  have Hb2 := Lib.hid (show Below w.heap.size w (w1.alloc (.cells #[.int .i64 (lv h h.length 0 : Nat), .int .i64 (lv h h.length 1 : Nat), .int .i64 (lv h h.length 2 : Nat), .int .i64 (lv h h.length 3 : Nat), .int .i64 (lv h h.length 4 : Nat), .int .i64 (lv h h.length 5 : Nat), .int .i64 (lv h h.length 6 : Nat), .int .i64 (lv h h.length 7 : Nat), .int .i64 (lv h h.length 8 : Nat), .int .i64 (lv h h.length 9 : Nat), .int .i64 (lv h h.length 10 : Nat), .int .i64 (lv h h.length 11 : Nat), .int .i64 (lv h h.length 12 : Nat), .int .i64 (lv h h.length 13 : Nat), .int .i64 (lv h h.length 14 : Nat), .int .i64 (lv h h.length 15 : Nat), .int .i64 (lv h h.length 16 : Nat), .int .i64 (lv h h.length 17 : Nat), .int .i64 (lv h h.length 18 : Nat), .int .i64 (lv h h.length 19 : Nat), .int .i64 (lv h h.length 20 : Nat), .int .i64 0, .int .i64 0, .int .i64 0, .int .i64 0, .int .i64 0, .int .i64 0, .int .i64 0, .int .i64 0, .int .i64 0, .int .i64 0, .int .i64 0, .int .i64 0, .int .i64 0, .int .i64 0, .slice none 0 0] 97)) from Below.tr Hb1.out (below_alloc _ _))
  have Hwb := Lib.hid Hb1.out.size
  go_upto_region 2 with fail
  generalize w1.alloc (.cells #[.int .i64 (lv h h.length 0 : Nat), .int .i64 (lv h h.length 1 : Nat), .int .i64 (lv h h.length 2 : Nat), .int .i64 (lv h h.length 3 : Nat), .int .i64 (lv h h.length 4 : Nat), .int .i64 (lv h h.length 5 : Nat), .int .i64 (lv h h.length 6 : Nat), .int .i64 (lv h h.length 7 : Nat), .int .i64 (lv h h.length 8 : Nat), .int .i64 (lv h h.length 9 : Nat), .int .i64 (lv h h.length 10 : Nat), .int .i64 (lv h h.length 11 : Nat), .int .i64 (lv h h.length 12 : Nat), .int .i64 (lv h h.length 13 : Nat), .int .i64 (lv h h.length 14 : Nat), .int .i64 (lv h h.length 15 : Nat), .int .i64 (lv h h.length 16 : Nat), .int .i64 (lv h h.length 17 : Nat), .int .i64 (lv h h.length 18 : Nat), .int .i64 (lv h h.length 19 : Nat), .int .i64 (lv h h.length 20 : Nat), .int .i64 0, .int .i64 0, .int .i64 0, .int .i64 0, .int .i64 0, .int .i64 0, .int .i64 0, .int .i64 0, .int .i64 0, .int .i64 0, .int .i64 0, .int .i64 0, .int .i64 0, .int .i64 0, .slice none 0 0] 97) = w2 at *
  generalize w1.heap.size = b at *
  have hA : row 21 (snF h (snW h 0) (snR h 0) (.slice none 0 0)) = livA h := row_congr fun j hj => if_pos hj
  have hld := load_lives HS0.out
  rw [hA] at hld
  have Hld := Lib.hid hld
  clear hld hA
  go_wp2_with (refine wpList_load_var rfl 70 (.tmp 13) rfl ⟨b, 0, none⟩ rfl (livA h) Hld.out ?_)
  refine (HM.out _).mono ?_
  rintro e w3 ⟨u, rfl, hu, hb3⟩
  obtain ⟨ua, uc, rfl⟩ : ∃ a c, u = .slice a (comN h 7).length c := by
    obtain ⟨a, c, e⟩ := own_slice hu
    rw [castN_length] at e
    exact ⟨a, c, e⟩
  have s3 : SnB w3 b h (snW h 0) (snR h 0) (.slice none 0 0) := Blk.keep HS0.out hb3
  have hli := s3.li
  have hfz := Blk.fz s3 35
  have HS4 := Lib.hid (SnB.put_l s3 (.slice ua (comN h 7).length uc))
  have Hb4 := Lib.hid (Below.put (Below.tr Hb2.out hb3) Hwb.out (i := 35) (.slice ua (comN h 7).length uc))
  have HI4 := Lib.hid (show OwnInts w2.heap.size (w3.setCell ⟨b, 35, none⟩ (.slice ua (comN h 7).length uc)) (.slice ua (comN h 7).length uc) (castN (comN h 7)) from by
    have ho : OwnInts w2.heap.size (w3.setCell ⟨b, 35, none⟩ (.slice ua (comN h 7).length uc)) (.slice ua (comN h 7).length uc) (castN (comN h 7)) := own_block hu fun g hg => heap_setCell_other w3 ⟨b, 35, none⟩ g _ (by
      show g ≠ b
      have h1 := (own_lt hu hg).1
      have h2 := Blk.lt HS0.out
      omega)
    exact ho)
  have Hbl := Lib.hid (Blk.lt HS0.out)
  clear s3 HS0 hb3 hu Hld
  go_wp2_with fail
  generalize w3.setCell ⟨b, 35, none⟩ (.slice ua (comN h 7).length uc) = w4 at *
  generalize hU : Value.slice ua (comN h 7).length uc = U at *
  have HWl := Lib.hid (fun k (hk : k ≤ h.length) => snW_lt HH.out k hk)
  have HFl := Lib.hid (fun k (hk : k ≤ h.length) => snR_lt HH.out k hk)
  have HWs := Lib.hid (show ∀ k, snW h (k + 1) = if tK h k = 1 then fun t => if t = tT h k then snW h k t ||| 2 ^ tI h k else snW h k t else snW h k from fun k => rfl)
  have HFs := Lib.hid (show ∀ k, snR h (k + 1) = if tK h k = 0 then fun t => if t = tT h k then snR h k t ||| ndiff (2 ^ tI h k) (snW h k t) else snR h k t else snR h k from fun k => rfl)
  clear hU
  go_loopw [20] (fun vk wr => ∃ k : Nat, vk = .int .i64 k ∧ k ≤ h.length ∧ SnB wr b h (snW h k) (snR h k) U ∧ Below w.heap.size w wr ∧ w4.grownBy wr (some b)) (fun vk _ => h.length - (intOf vk).toNat)
  case atStart => exact ⟨0, rfl, Nat.zero_le _, HS4.out, Hb4.out, World.grownBy.refl _ _⟩
  case round =>
    clear Hb4
    obtain ⟨k, rfl, hk, hS, hb, hg⟩ := hrel
    obtain ⟨wA, hwA⟩ : ∃ wA : World, wA = wr := ⟨_, rfl⟩
    subst hwA
    have HS := Lib.hid hS
    have Hb := Lib.hid hb
    have Hg := Lib.hid hg
    clear hS hb hg
    by_cases hlt : k < h.length
    · have hc1 := Below.keep Hb.out (Hc.out k hlt).1
      have hc2 := Below.keep Hb.out (Hc.out k hlt).2.1
      have hc3 := Below.keep Hb.out (Hc.out k hlt).2.2
      have hixk := Hix.out k
      have ht6 := HH.out.t6 k hlt
      have hx5 := (HH.out.x5 k hlt).1
      have HW1 := Lib.hid (HWs.out k)
      have HF1 := Lib.hid (HFs.out k)
      have hWl := HWl.out k hk (tT h k)
      have hFl := HFl.out k hk (tT h k)
      obtain ⟨t, ht⟩ : ∃ s, s = tT h k := ⟨_, rfl⟩
      obtain ⟨q, hq⟩ : ∃ r, r = tK h k := ⟨_, rfl⟩
      obtain ⟨x, hx⟩ : ∃ x, x = tI h k := ⟨_, rfl⟩
      rw [← ht] at hc1 HW1 HF1 hWl hFl ht6
      rw [← hq] at hc2 HW1 HF1
      rw [← hx] at hc3 HW1 HF1 hx5
      obtain ⟨ht1, ht2⟩ := ht6
      have s5 : SnB (wA.alloc (.cells #[.int .i64 t, .int .i64 q, .int .i64 x] 58)) b h (snW h k) (snR h k) U := Blk.keep HS.out (below_alloc _ _)
      have c1 := s5.wr (show t < 7 by omega)
      have c2 := s5.fo (show t < 7 by omega)
      have f1 := Blk.fz s5 (21 + t)
      have f2 := Blk.fz s5 (28 + t)
      have g0 : (wA.alloc (.cells #[.int .i64 t, .int .i64 q, .int .i64 x] 58)).cell? ⟨wA.heap.size, 0, none⟩ = some (.int .i64 t) := cell_new wA _ _ 0
      have g1 : (wA.alloc (.cells #[.int .i64 t, .int .i64 q, .int .i64 x] 58)).cell? ⟨wA.heap.size, 1, none⟩ = some (.int .i64 q) := cell_new wA _ _ 1
      have g2 : (wA.alloc (.cells #[.int .i64 t, .int .i64 q, .int .i64 x] 58)).cell? ⟨wA.heap.size, 2, none⟩ = some (.int .i64 x) := cell_new wA _ _ 2
      have Hb5 := Lib.hid (Below.tr Hb.out (below_alloc wA (.cells #[.int .i64 t, .int .i64 q, .int .i64 x] 58)))
      have Hg5 := Lib.hid (show w4.grownBy (wA.alloc (.cells #[.int .i64 t, .int .i64 q, .int .i64 x] 58)) (some b) from ⟨Hg.out.os, Hg.out.tape, Hg.out.output, by have := Hg.out.size; simp; omega, fun j hj hne => (heap_alloc_old _ _ (by have := Hg.out.size; omega)).trans (Hg.out.block j hj hne)⟩)
      have Hs5 := Lib.hid s5
      have hti : (t : Int) < 7 := by omega
      have ht0 : (0 : Int) ≤ (t : Int) := by omega
      have hxi : (x : Int) < 64 := by omega
      have hx0 : (0 : Int) ≤ (x : Int) := by omega
      obtain ⟨P, hP, p1, p2, p3⟩ := pow_name x (by omega)
      have hP128 : P < 128 := by rw [hP]; exact Nat.pow_lt_pow_right (by decide) (show x < 7 by omega)
      have HP := Lib.hid hP
      have hor := bits_or_nat (snW h k t) P (by omega) (by omega)
      have han := bits_andNot_nat P (snW h k t) (by omega) (by omega)
      have hor2 := bits_or_nat (snR h k t) (ndiff P (snW h k t)) (by omega) (by have := ndiff_lt (b := snW h k t) hP128; omega)
      have HA := Lib.hid (fun (q1 : q = 1) => show (fun y => if y = t then snW h k t ||| P else snW h k y) = snW h (k + 1) from by
        rw [HW1.out, if_pos q1, HP.out]
        funext y
        by_cases e : y = t
        · rw [if_pos e, if_pos e, e]
        · rw [if_neg e, if_neg e])
      have HB := Lib.hid (fun (q1 : q = 0) => show (fun y => if y = t then snR h k t ||| ndiff P (snW h k t) else snR h k y) = snR h (k + 1) from by
        rw [HF1.out, if_pos q1, HP.out]
        funext y
        by_cases e : y = t
        · rw [if_pos e, if_pos e, e]
        · rw [if_neg e, if_neg e])
      have HW0 := Lib.hid (fun (q1 : q ≠ 1) => HW1.out.trans (if_neg q1))
      have HF0 := Lib.hid (fun (q1 : q ≠ 0) => HF1.out.trans (if_neg q1))
      have Hputs := Lib.hid (fun (z : Nat) => And.intro (Blk.put_snW Hs5.out (show t < 7 by omega) z) (Blk.put_snF Hs5.out (show t < 7 by omega) z))
      have Hbput := Lib.hid (fun (i : Nat) (z : Value) => And.intro (Below.put Hb5.out Hwb.out (i := i) z) (show w4.grownBy ((wA.alloc (.cells #[.int .i64 t, .int .i64 q, .int .i64 x] 58)).setCell ⟨b, i, none⟩ z).drew (some b) from ⟨Hg5.out.os, Hg5.out.tape, Hg5.out.output, by have := Hg5.out.size; simpa using this, fun j hj hne => (heap_setCell_other _ ⟨b, i, none⟩ j _ (fun e => hne (by rw [e]))).trans (Hg5.out.block j hj hne)⟩))
      obtain ⟨wv, hwv⟩ : ∃ z, z = snW h k t := ⟨_, rfl⟩
      obtain ⟨rv, hrv⟩ : ∃ z, z = snR h k t := ⟨_, rfl⟩
      rw [← hwv] at c1 hor han hor2 HA HB
      rw [← hrv] at c2 hor2 HB
      clear ht hq hx hP hwv hrv hWl hFl
      by_cases e0 : q = 0
      · have q0 : ((q : Int) == 0) = true := by rw [beq_iff_eq]; omega
        have R1 := Lib.hid (HB.out e0)
        have R2 := Lib.hid (HW0.out (by omega))
        clear e0
        go_wp2_with fail
        go_region
        all_goals
          go_wp2_with fail
          go_roundw
          case rel => exact ⟨k + 1, by go_num, by omega, by rw [← R1.out, R2.out]; exact (Hputs.out _).2, (Hbput.out _ _).1.drew, (Hbput.out _ _).2⟩
          case measure => simp [intOf]; omega
      · have q0 : ((q : Int) == 0) = false := by rw [beq_eq_false_iff_ne]; omega
        have R2 := Lib.hid (HF0.out e0)
        by_cases e1 : q = 1
        · have q1 : ((q : Int) == 1) = true := by rw [beq_iff_eq]; omega
          have R1 := Lib.hid (HA.out e1)
          clear e0 e1
          go_wp2_with fail
          go_region
          all_goals
            go_wp2_with fail
            go_roundw
            case rel => exact ⟨k + 1, by go_num, by omega, by rw [← R1.out, R2.out]; exact (Hputs.out _).1, (Hbput.out _ _).1.drew, (Hbput.out _ _).2⟩
            case measure => simp [intOf]; omega
        · have q1 : ((q : Int) == 1) = false := by rw [beq_eq_false_iff_ne]; omega
          have R1 := Lib.hid (HW0.out e1)
          clear e0 e1
          go_wp2_with fail
          go_roundw
          case rel => exact ⟨k + 1, by go_num, by omega, by rw [R1.out, R2.out]; exact Hs5.out, Hb5.out, Hg5.out⟩
          case measure => simp [intOf]; omega
    · obtain rfl : k = h.length := by omega
      have HI := Lib.hid (show Ints wA U (castN (comN h 7)) from by
        have ho : OwnInts w2.heap.size wA U (castN (comN h 7)) := own_block HI4.out fun g hg => Hg.out.block g (own_lt HI4.out hg).2 (fun e => by
          injection e with e
          have h1 := (own_lt HI4.out hg).1
          have h2 := Hbl.out
          omega)
        exact ho.ints)
      go_wp2_with fail
      go_ret
      exact ⟨b, U, rfl, Hwb.out, HS.out, HI.out, Hb.out⟩
#print axioms snapshotsOf_any
/-- what a closure keeps from pair to pair -/
structure Inv (n : FuncId) (c1 c2 : Value) (b : Nat) (u : Value) (l : List Nat) (I : Nat → Nat → World → Prop) : Prop where
  ent : ∀ (x y : Int) (w : World), (callFunc n #[.int .i64 x, .int .i64 y, c1, c2]).run Try.prog w = .ok (.enter n #[.int .i64 x, .int .i64 y, c1, c2]) w
  step : ∀ i j w, I i j w → i < l.length → j < l.length → l.getD i 0 ≠ l.getD j 0 → Calls Try.prog n #[.int .i64 (l.getD i 0 : Nat), .int .i64 (l.getD j 0 : Nat), c1, c2] w fun e w' => e = .returned (.tuple #[]) ∧ I i (j + 1) w'
  skip : ∀ i j w, I i j w → i < l.length → j < l.length → l.getD i 0 = l.getD j 0 → I i (j + 1) w
  next : ∀ i w, I i l.length w → I (i + 1) 0 w
  list : ∀ i j w, I i j w → w.cell? ⟨b, 35, none⟩ = some u ∧ Ints w u (castN l)
set_option maxRecDepth 100000 in
set_option maxHeartbeats 8000000 in
theorem pairs_any {n : FuncId} {c1 c2 : Value} {b : Nat} {u : Value} {l : List Nat} {I : Nat → Nat → World → Prop} (hI : Inv n c1 c2 b u l I) (hl : l.length ≤ 7) (w : World) (h0 : I 0 0 w) :
    Calls Try.prog 69 #[.pointer (some ⟨b, 0, none⟩), .func (.func n) #[] #[c1, c2]] w fun e w' => e = .returned (.tuple #[]) ∧ I l.length 0 w' := by
  obtain ⟨hcl, hin⟩ := hI.list _ _ _ h0
  obtain ⟨a4, c4, hu⟩ : ∃ a c, u = .slice a l.length c := by
    obtain ⟨a, c, e⟩ := ints_slice hin
    rw [castN_length] at e
    exact ⟨a, c, e⟩
  subst hu
  have HI := Lib.hid hI
  have H0 := Lib.hid h0
  clear hI h0 hin
  go_enter Try.func69, Try.ntmps69
  go_wp2_with fail
  clear hcl
  go_loopw [13] (fun vi wr => ∃ i : Nat, vi = .int .i64 i ∧ i ≤ l.length ∧ I i 0 wr) (fun vi _ => l.length - (intOf vi).toNat)
  case atStart => exact ⟨0, rfl, Nat.zero_le _, H0.out⟩
  case round =>
    obtain ⟨i, rfl, hi, hI⟩ := hrel
    obtain ⟨wA, hwA⟩ : ∃ wA : World, wA = wr := ⟨_, rfl⟩
    subst hwA
    have HIi := Lib.hid hI
    clear hI
    by_cases hil : i < l.length
    · obtain ⟨hcl, hin⟩ := HI.out.list _ _ _ HIi.out
      obtain ⟨a5, b5, off5, cap5, hv5, _, ha5, hc5⟩ := IntsN.get hin
      injection hv5 with e1 _ e3
      subst e1 e3
      have hix := run_ix (P := Try.prog) (t := 24) (a := a4) (len := l.length) (cap := c4) (b := b5) (off := off5) (s := 1) Try.underlying24 (by intro w; kernel_rfl) ha5
      simp only [Nat.mul_one] at hix
      have hixi := hix i
      have hci := hc5 i hil
      have Hst := Lib.hid (fun j w h hj => HI.out.step i j w h hil hj)
      have Hsk := Lib.hid (fun j w h hj => HI.out.skip i j w h hil hj)
      obtain ⟨x, hx⟩ : ∃ x, x = l.getD i 0 := ⟨_, rfl⟩
      rw [← hx] at hci Hst Hsk
      clear hix hin hc5 ha5 hx
      go_wp2_with fail
      clear hcl hci hixi
      obtain ⟨wo, hwo⟩ : ∃ wo : World, wo = wA := ⟨_, rfl⟩
      clear hwo
      go_loopw [22] (fun vj wr => ∃ j : Nat, vj = .int .i64 j ∧ j ≤ l.length ∧ I i j wr) (fun vj _ => l.length - (intOf vj).toNat)
      case atStart => exact ⟨0, rfl, Nat.zero_le _, HIi.out⟩
      case round =>
        obtain ⟨j, rfl, hj, hI⟩ := hrel
        obtain ⟨wB, hwB⟩ : ∃ wB : World, wB = wr := ⟨_, rfl⟩
        subst hwB
        have HIj := Lib.hid hI
        clear hI
        by_cases hjl : j < l.length
        · obtain ⟨_, hin⟩ := HI.out.list _ _ _ HIj.out
          obtain ⟨a6, b6, off6, cap6, hv6, _, ha6, hc6⟩ := IntsN.get hin
          injection hv6 with e1 _ e3
          subst e1 e3
          have hix := run_ix (P := Try.prog) (t := 24) (a := a4) (len := l.length) (cap := c4) (b := b6) (off := off6) (s := 1) Try.underlying24 (by intro w; kernel_rfl) ha6
          simp only [Nat.mul_one] at hix
          have hixj := hix j
          have hcj := hc6 j hjl
          have Hstj := Lib.hid (Hst.out j wB HIj.out hjl)
          have Hskj := Lib.hid (Hsk.out j wB HIj.out hjl)
          obtain ⟨y, hy⟩ : ∃ y, y = l.getD j 0 := ⟨_, rfl⟩
          rw [← hy] at hcj Hstj Hskj
          clear hix hin hc6 ha6 hy
          by_cases e : x = y
          · have R := Lib.hid (Hskj.out e)
            have q : ((x : Int) != (y : Int)) = false := by rw [bne_eq_false_iff_eq]; omega
            clear e
            go_wp2_with fail
            go_roundw
            case rel => exact ⟨j + 1, by go_num, by omega, R.out⟩
            case measure => simp [intOf]; omega
          · have HC := Lib.hid (Hstj.out e)
            have q : ((x : Int) != (y : Int)) = true := by rw [bne_iff_ne]; omega
            have hent := HI.out.ent x y
            clear e
            go_wp2_with fail
            refine HC.out.mono ?_
            rintro e w7 ⟨rfl, hI7⟩
            have HI7 := Lib.hid hI7
            clear hI7 hcj hixj
            go_wp2_with fail
            go_roundw
            case rel => exact ⟨j + 1, by go_num, by omega, HI7.out⟩
            case measure => simp [intOf]; omega
        · obtain rfl : j = l.length := by omega
          have R := Lib.hid (HI.out.next i wB HIj.out)
          go_wp2_with fail
          go_roundw
          case rel => exact ⟨i + 1, by go_num, by omega, R.out⟩
          case measure => simp [intOf]; omega
    · obtain rfl : i = l.length := by omega
      go_wp2_with fail
      go_end0
      exact ⟨rfl, HIi.out⟩
#print axioms pairs_any
/-- two transactions that overlap write one item -/
def Bad (h : List NOp) (W : Nat → Nat) (a c : Nat) : Prop := Ovl h a c ∧ W a &&& W c ≠ 0
instance (h : List NOp) (W : Nat → Nat) (a c : Nat) : Decidable (Bad h W a c) := inferInstanceAs (Decidable (_ ∧ _))
set_option maxRecDepth 100000 in
set_option maxHeartbeats 4000000 in
theorem allowed1_any {w : World} {b ps pk : Nat} {h : List NOp} {W F : Nat → Nat} {v : Value} {ok : Bool} (s : SnB w b h W F v) (hp : w.cell? ⟨ps, 0, none⟩ = some (.pointer (some ⟨b, 0, none⟩))) (hk : Blk w pk 4 1 fun _ => .bool ok)
    {x y : Nat} (hx : x < 7) (hy : y < 7) (hW : ∀ x, W x < 128) :
    Calls Try.prog 99 #[.int .i64 x, .int .i64 y, .pointer (some ⟨ps, 0, none⟩), .pointer (some ⟨pk, 0, none⟩)] w fun e w' => e = .returned (.tuple #[]) ∧ Blk w' pk 4 1 (fun _ => .bool (if Bad h W x y then false else ok)) ∧ w.grownBy w' (some pk) := by
  have HO := Lib.hid (fun m B (hB : decide (Ovl h x y) = B) => overlap_any (s.drewN m) hx hy B hB)
  have hand := bits_and_nat (W x) (W y) (by have := hW x; omega) (by have := hW y; omega)
  have c1 := s.wr hx
  have c2 := s.wr hy
  have ck := Blk.at hk (show 0 < 1 by omega)
  have fk := Blk.fz hk 0
  obtain ⟨f, h1⟩ : ∃ p, p = W x := ⟨_, rfl⟩
  obtain ⟨g, h2⟩ : ∃ p, p = W y := ⟨_, rfl⟩
  obtain ⟨z, hz⟩ : ∃ z, z = f &&& g := ⟨_, rfl⟩
  rw [← h1] at c1
  rw [← h2] at c2
  rw [← h1, ← h2, ← hz] at hand
  have HBt := Lib.hid (fun (q1 : Ovl h x y) (q2 : z ≠ 0) => show (if Bad h W x y then false else ok) = false from if_pos ⟨q1, by rw [← h1, ← h2, ← hz]; exact q2⟩)
  have HBf := Lib.hid (fun (q : ¬ (Ovl h x y ∧ z ≠ 0)) => show (if Bad h W x y then false else ok) = ok from if_neg (fun r => q ⟨r.1, by rw [hz, h1, h2]; exact r.2⟩))
  obtain ⟨R, hR⟩ : ∃ R, R = (if Bad h W x y then false else ok) := ⟨_, rfl⟩
  rw [← hR] at HBt HBf ⊢
  have Hk := Lib.hid hk
  have hxa : (x : Int) < 7 := by omega
  have hxb : (0 : Int) ≤ (x : Int) := by omega
  have hya : (y : Int) < 7 := by omega
  have hyb : (0 : Int) ≤ (y : Int) := by omega
  clear s hk hW h1 h2 hz hR hx hy
  by_cases q1 : Ovl h x y
  · have HC := Lib.hid (fun m => HO.out m true (decide_eq_true q1))
    by_cases q2 : z = 0
    · have d2 : ((z : Int) != 0) = false := by rw [bne_eq_false_iff_eq]; omega
      have HR := Lib.hid (HBf.out (fun r => r.2 q2))
      clear q1 q2 HO
      go_enter Try.func99, Try.ntmps99
      go_wp2_with fail
      go_quiet (first | (go_at_call 71; exact Calls.quiet_of (HC.out _)))
      go_wp2_with fail
      go_end0
      exact ⟨rfl, by rw [HR.out]; exact Hk.out, ⟨rfl, rfl, rfl, Nat.le_refl _, fun _ _ _ => rfl⟩⟩
    · have d2 : ((z : Int) != 0) = true := by rw [bne_iff_ne]; omega
      have HR := Lib.hid (HBt.out q1 q2)
      clear q1 q2 HO
      go_enter Try.func99, Try.ntmps99
      go_wp2_with fail
      go_quiet (first | (go_at_call 71; exact Calls.quiet_of (HC.out _)))
      go_wp2_with fail
      go_end0
      refine ⟨rfl, ?_, ?_⟩
      · rw [HR.out]
        refine Blk.congr (Blk.put (show Blk (w.drewN nq) pk 4 1 _ from Hk.out) 0 (.bool false)) fun j hj => ?_
        rw [if_pos (by omega)]
      · exact ⟨rfl, rfl, rfl, by simp, fun k _ hne => heap_setCell_other (w.drewN nq) ⟨pk, 0, none⟩ k _ (fun e => hne (by rw [e]))⟩
  · have HC := Lib.hid (fun m => HO.out m false (decide_eq_false q1))
    have HR := Lib.hid (HBf.out (fun r => q1 r.1))
    clear q1 HO
    go_enter Try.func99, Try.ntmps99
    go_wp2_with fail
    go_quiet (first | (go_at_call 71; exact Calls.quiet_of (HC.out _)))
    go_wp2_with fail
    go_end0
    exact ⟨rfl, by rw [HR.out]; exact Hk.out, ⟨rfl, rfl, rfl, Nat.le_refl _, fun _ _ _ => rfl⟩⟩
theorem ent99 (c1 c2 : Value) (x y : Int) (w : World) : (callFunc 99 #[.int .i64 x, .int .i64 y, c1, c2]).run Try.prog w = .ok (.enter 99 #[.int .i64 x, .int .i64 y, c1, c2]) w := by
  kernel_rfl
#print axioms allowed1_any
/-- no bad pair among those before (i, j) -/
def AlP (h : List NOp) (W : Nat → Nat) (l : List Nat) (i j : Nat) : Prop := ∀ i' j', i' < l.length → j' < l.length → (i' < i ∨ i' = i ∧ j' < j) → l.getD i' 0 ≠ l.getD j' 0 → ¬ Bad h W (l.getD i' 0) (l.getD j' 0)
theorem alP_step {h : List NOp} {W : Nat → Nat} {l : List Nat} {i j : Nat} (hi : i < l.length) (hj : j < l.length) : AlP h W l i (j + 1) ↔ AlP h W l i j ∧ (l.getD i 0 ≠ l.getD j 0 → ¬ Bad h W (l.getD i 0) (l.getD j 0)) := by
  constructor
  · intro q
    exact ⟨fun i' j' h1 h2 h3 => q i' j' h1 h2 (by omega), fun hne => q i j hi hj (by omega) hne⟩
  · rintro ⟨q1, q2⟩ i' j' h1 h2 h3 hne
    by_cases e : i' = i ∧ j' = j
    · rw [e.1, e.2] at hne ⊢; exact q2 hne
    · exact q1 i' j' h1 h2 (by omega) hne
theorem alP_next {h : List NOp} {W : Nat → Nat} {l : List Nat} {i : Nat} : AlP h W l i l.length ↔ AlP h W l (i + 1) 0 := by
  constructor
  · intro q i' j' h1 h2 h3; exact q i' j' h1 h2 (by omega)
  · intro q i' j' h1 h2 h3; exact q i' j' h1 h2 (by omega)
theorem alP_all {h : List NOp} {W : Nat → Nat} {l : List Nat} : AlP h W l l.length 0 ↔ ∀ a, a ∈ l → ∀ c, c ∈ l → a ≠ c → ¬ Bad h W a c := by
  constructor
  · intro q a ha c hc hne
    obtain ⟨i, hi, rfl⟩ := List.getElem_of_mem ha
    obtain ⟨j, hj, rfl⟩ := List.getElem_of_mem hc
    have := q i j hi hj (by omega)
    rw [List.getD_eq_getElem?_getD, List.getElem?_eq_getElem hi, List.getD_eq_getElem?_getD, List.getElem?_eq_getElem hj] at this
    exact this hne
  · intro q i j hi hj _ hne
    exact q _ (getD_mem hi) _ (getD_mem hj) hne
set_option maxRecDepth 100000 in
set_option maxHeartbeats 4000000 in
theorem allowed_any {w : World} {b : Nat} {h : List NOp} {W F : Nat → Nat} {l : List Nat} {u : Value} (s : SnB w b h W F u) (hin : Ints w u (castN l)) (h7 : ∀ x, x ∈ l → x < 7) (hl : l.length ≤ 7) (hW : ∀ x, W x < 128) :
    Calls Try.prog 67 #[.pointer (some ⟨b, 0, none⟩)] w fun e w' => ∃ B : Bool, e = .returned (.bool B) ∧ (B = true ↔ ∀ a, a ∈ l → ∀ c, c ∈ l → a ≠ c → ¬ Bad h W a c) ∧ Below w.heap.size w w' := by
  obtain ⟨w2, hw2⟩ : ∃ w2, w2 = (w.alloc (.cells #[.pointer (some ⟨b, 0, none⟩)] 93)).alloc (.cells #[.bool true] 4) := ⟨_, rfl⟩
  have hb2 : Below w.heap.size w w2 := by rw [hw2]; exact Below.tr (below_alloc _ _) (below_alloc _ _)
  have hp2 : w2.cell? ⟨w.heap.size, 0, none⟩ = some (.pointer (some ⟨b, 0, none⟩)) := by
    rw [hw2]
    exact (World.cell?_of_block (heap_alloc_old _ _ (by simp))).trans (cell_new w #[.pointer (some ⟨b, 0, none⟩)] 93 0)
  have hk2 : Blk w2 (w.heap.size + 1) 4 1 (fun _ => .bool true) := by
    rw [hw2]
    have := blk_new (w.alloc (.cells #[.pointer (some ⟨b, 0, none⟩)] 93)) 4 1 (fun _ => .bool true)
    rwa [show (w.alloc (.cells #[.pointer (some ⟨b, 0, none⟩)] 93)).heap.size = w.heap.size + 1 by simp] at this
  have hInv : Inv 99 (.pointer (some ⟨w.heap.size, 0, none⟩)) (.pointer (some ⟨w.heap.size + 1, 0, none⟩)) b u l (fun i j w' => Below w.heap.size w w' ∧ w'.cell? ⟨w.heap.size, 0, none⟩ = some (.pointer (some ⟨b, 0, none⟩)) ∧ ∃ ok : Bool, Blk w' (w.heap.size + 1) 4 1 (fun _ => .bool ok) ∧ (ok = true ↔ AlP h W l i j)) :=
    { ent := fun x y w => ent99 _ _ x y w
      step := fun i j w' hI hi hj hne => by
        obtain ⟨hb, hp, ok, hk, hok⟩ := hI
        refine (allowed1_any (Blk.keep s hb) hp hk (h7 _ (getD_mem hi)) (h7 _ (getD_mem hj)) hW).mono ?_
        rintro e w'' ⟨rfl, hk', hg⟩
        refine ⟨rfl, Below.grown hb hg hb.size (fun k hk => by injection hk with hk; omega), grown_cell hp hg (by omega), _, hk', ?_⟩
        rw [alP_step hi hj]
        by_cases q : Bad h W (l.getD i 0) (l.getD j 0)
        · rw [if_pos q]
          exact ⟨fun r => (by cases r), fun r => absurd q (r.2 hne)⟩
        · rw [if_neg q, hok]
          exact ⟨fun r => ⟨r, fun _ => q⟩, fun r => r.1⟩
      skip := fun i j w' hI hi hj he => by
        obtain ⟨hb, hp, ok, hk, hok⟩ := hI
        refine ⟨hb, hp, ok, hk, ?_⟩
        rw [alP_step hi hj, hok]
        exact ⟨fun r => ⟨r, fun q => absurd he q⟩, fun r => r.1⟩
      next := fun i w' hI => by
        obtain ⟨hb, hp, ok, hk, hok⟩ := hI
        exact ⟨hb, hp, ok, hk, hok.trans alP_next⟩
      list := fun i j w' hI => ⟨(show SnB w' b h W F u from Blk.keep s hI.1).li, hin.keep hI.1⟩ }
  have HP := Lib.hid (pairs_any hInv hl w2 ⟨hb2, hp2, true, hk2, ⟨fun _ i' j' _ _ h3 => by omega, fun _ => rfl⟩⟩)
  have ck := Blk.at hk2 (show 0 < 1 by omega)
  clear hInv s hin h7 hl hW hk2 hb2
  go_enter Try.func67, Try.ntmps67
  go_upto_region 2 with fail
  rw [← hw2]
  clear hw2
  go_wp2_with fail
  refine HP.out.mono ?_
  rintro e w3 ⟨rfl, hb3, _, ok, hk3, hok⟩
  have ck3 := Blk.at hk3 (show 0 < 1 by omega)
  have Hb3 := Lib.hid hb3
  have Hok := Lib.hid (hok.trans alP_all)
  clear hb3 hk3 hok ck hp2
  go_wp2_with fail
  go_ret
  exact ⟨ok, rfl, Hok.out, Hb3.out⟩
#print axioms allowed_any
/-- an edge under snapshots -/
def SnE (h : List NOp) (W F : Nat → Nat) (l : List Nat) (a c : Nat) : Prop := (W a &&& W c ≠ 0 ∧ lv h h.length (7 + a) < lv h h.length (7 + c)) ∨ rdB h W F l a c = true ∨ Mis h W F a c
instance (h : List NOp) (W F : Nat → Nat) (l : List Nat) (a c : Nat) : Decidable (SnE h W F l a c) := inferInstanceAs (Decidable (_ ∨ _ ∨ _))
theorem sn_tr {a w w' : World} {row : Option Nat} (h : a.grownBy w row) (k : w.grownBy w' row) : a.grownBy w' row :=
  ⟨k.os.trans h.os, k.tape.trans h.tape, k.output.trans h.output, Nat.le_trans h.size k.size, fun j hj hne => (k.block j (Nat.lt_of_lt_of_le hj h.size) hne).trans (h.block j hj hne)⟩
set_option maxRecDepth 100000 in
set_option maxHeartbeats 8000000 in
theorem edges1_any {w : World} {b ps pe eb : Nat} {h : List NOp} {W F : Nat → Nat} {l : List Nat} {v : Value} {f : Nat → Nat} (s : SnB w b h W F v) (hin : Ints w v (castN l)) (h7 : ∀ x, x ∈ l → x < 7) (hl : l.length ≤ 7)
    (hp : w.cell? ⟨ps, 0, none⟩ = some (.pointer (some ⟨b, 0, none⟩))) (he : w.cell? ⟨pe, 0, none⟩ = some (.pointer (some ⟨eb, 0, none⟩))) (hE : EdB w eb f) (hf : ∀ x, f x < 128)
    {x y : Nat} (hx : x < 7) (hy : y < 7) (hW : ∀ x, W x < 128) (hF : ∀ x, F x < 128) :
    Calls Try.prog 100 #[.int .i64 x, .int .i64 y, .pointer (some ⟨ps, 0, none⟩), .pointer (some ⟨pe, 0, none⟩)] w fun e w' => e = .returned (.tuple #[]) ∧ EdB w' eb (if SnE h W F l x y then fun j => if j = x then f x ||| 2 ^ y else f j else f) ∧ w.grownBy w' (some eb) := by
  have HR := Lib.hid (fun m B (hB : rdB h W F l x y = B) => reads_any (s.drewN m) (Ints.keep hin (bdrewN (Below.refl _ _) m)) h7 hW hF hl hy B hB)
  have HM := Lib.hid (fun m B (hB : decide (Mis h W F x y) = B) => misses_any (s.drewN m) hx hy (hF x) (hW y) B hB)
  have HA := Lib.hid (fun m => add_any (show EdB (w.drewN m) eb f from Blk.keep hE (bdrewN (Below.refl _ _) m)) hx hy (hf x))
  have hand := bits_and_nat (W x) (W y) (by have := hW x; omega) (by have := hW y; omega)
  have c1 := s.wr hx
  have c2 := s.wr hy
  have c3 := s.life (show 7 + x < 21 by omega)
  have c4 := s.life (show 7 + y < 21 by omega)
  obtain ⟨X, hX⟩ : ∃ X, X = decide (SnE h W F l x y) := ⟨_, rfl⟩
  obtain ⟨p, h1⟩ : ∃ p, p = W x := ⟨_, rfl⟩
  obtain ⟨g, h2⟩ : ∃ p, p = W y := ⟨_, rfl⟩
  obtain ⟨z, hz⟩ : ∃ z, z = p &&& g := ⟨_, rfl⟩
  obtain ⟨q1, hq1⟩ : ∃ q, q = lv h h.length (7 + x) := ⟨_, rfl⟩
  obtain ⟨q2, hq2⟩ : ∃ q, q = lv h h.length (7 + y) := ⟨_, rfl⟩
  rw [← h1] at c1
  rw [← h2] at c2
  rw [← hq1] at c3
  rw [← hq2] at c4
  rw [← h1, ← h2, ← hz] at hand
  obtain ⟨X0, hX0⟩ : ∃ X0, X0 = decide (z ≠ 0 ∧ q1 < q2) := ⟨_, rfl⟩
  have HXt := Lib.hid (show X0 = true → X = true from fun q => by
    rw [hX]; rw [hX0] at q
    have := of_decide_eq_true q
    exact decide_eq_true (.inl ⟨by rw [← h1, ← h2, ← hz]; exact this.1, by rw [← hq1, ← hq2]; exact this.2⟩))
  have HXf := Lib.hid (show X0 = false → X = (rdB h W F l x y || decide (Mis h W F x y)) from fun q => by
    rw [hX0] at q
    have hn := of_decide_eq_false q
    rw [hX, Bool.eq_iff_iff, decide_eq_true_eq, Bool.or_eq_true, decide_eq_true_eq]
    unfold SnE
    rw [← h1, ← h2, ← hz, ← hq1, ← hq2]
    exact ⟨fun r => r.resolve_left hn, fun r => .inr r⟩)
  have HXe := Lib.hid (show ∀ A B : Nat → Nat, (if SnE h W F l x y then A else B) = if X = true then A else B from fun A B => by
    by_cases q : SnE h W F l x y
    · rw [if_pos q, if_pos (by rw [hX]; exact decide_eq_true q)]
    · rw [if_neg q, if_neg (by rw [hX]; simpa using q)])
  rw [HXe.out]
  have Hp := Lib.hid hp
  have He := Lib.hid he
  have HE := Lib.hid hE
  have HX0 := Lib.hid hX0
  have hxa : (x : Int) < 7 := by omega
  have hxb : (0 : Int) ≤ (x : Int) := by omega
  have hya : (y : Int) < 7 := by omega
  have hyb : (0 : Int) ≤ (y : Int) := by omega
  clear s hin h7 hl hE hf hW hF h1 h2 hz hq1 hq2 hX hX0 hx hy HXe
  go_enter Try.func100, Try.ntmps100
  go_upto_region 0 with fail
  go_cut [6] from 7 to 37 (fun o wx => o = .bool X0 ∧ ∃ m, wx = w.drewN m)
  case first =>
    by_cases e1 : z = 0
    · have d1 : ((z : Int) != 0) = false := by rw [bne_eq_false_iff_eq]; omega
      have R := Lib.hid (show X0 = false from by rw [HX0.out]; exact decide_eq_false (fun q => q.1 e1))
      clear e1
      go_quiet (fail)
      go_wp2_with fail
      go_meet
      exact ⟨by rw [R.out], nq, rfl⟩
    · have d1 : ((z : Int) != 0) = true := by rw [bne_iff_ne]; omega
      obtain ⟨D, hD⟩ : ∃ D, D = decide (q1 < q2) := ⟨_, rfl⟩
      have d2 : decide ((q1 : Int) < (q2 : Int)) = D := by rw [hD]; exact decide_eq_decide.2 (by omega)
      have d2' : decide (q1 < q2) = D := hD.symm
      have R := Lib.hid (show X0 = D from by rw [HX0.out, hD]; exact decide_eq_decide.2 ⟨fun q => q.2, fun q => ⟨e1, q⟩⟩)
      clear e1 hD
      go_quiet (fail)
      go_wp2_with fail
      go_meet
      exact ⟨by rw [R.out], nq, rfl⟩
  case rest =>
    obtain ⟨rfl, m, rfl⟩ := hcut
    obtain ⟨w5, hw5⟩ : ∃ w5, w5 = w.drewN m := ⟨_, rfl⟩
    have Hw5 := Lib.hid hw5
    have hp5 : w5.cell? ⟨ps, 0, none⟩ = some (.pointer (some ⟨b, 0, none⟩)) := by rw [hw5]; exact Hp.out
    have HR5 := Lib.hid (fun B hB => HR.out m B hB)
    rw [← hw5] at HR5 ⊢
    clear c1 c2 c3 c4 hp he hand hw5
    go_upto_region 1 with fail
    go_cut [50] from 38 to 50 (fun o wx => o = .bool X ∧ ∃ m, wx = w.drewN m)
    case first =>
      cases X0 with
      | true =>
        have R := Lib.hid (HXt.out rfl)
        go_wp2_with fail
        go_meet
        exact ⟨by rw [R.out], m, Hw5.out⟩
      | false =>
        have RX := Lib.hid (HXf.out rfl)
        cases hr : rdB h W F l x y with
        | true =>
          have R := Lib.hid (show X = true from by rw [RX.out, hr]; rfl)
          have HC := Lib.hid (HR5.out true hr)
          clear hr
          go_wp2_with fail
          refine HC.out.mono ?_
          rintro e w6 ⟨rfl, m6, hm6⟩
          have Hm6 := Lib.hid (show w6 = w.drewN (m + m6) from by rw [hm6, Hw5.out, World.drewN_drewN])
          clear hm6
          go_wp2_with fail
          go_meet
          exact ⟨by rw [R.out], _, Hm6.out⟩
        | false =>
          obtain ⟨D, hD⟩ : ∃ D, D = decide (Mis h W F x y) := ⟨_, rfl⟩
          have R := Lib.hid (show X = D from by rw [RX.out, hr, hD]; rfl)
          have HC := Lib.hid (HR5.out false hr)
          have HMD := Lib.hid (fun m => HM.out m D hD.symm)
          clear hr hD
          go_wp2_with fail
          refine HC.out.mono ?_
          rintro e w6 ⟨rfl, m6, hm6⟩
          have hm7 : w6 = w.drewN (m + m6) := by rw [hm6, Hw5.out, World.drewN_drewN]
          have hp6 : w6.cell? ⟨ps, 0, none⟩ = some (.pointer (some ⟨b, 0, none⟩)) := by rw [hm7]; exact Hp.out
          have HC2 := Lib.hid (HMD.out (m + m6))
          rw [← hm7] at HC2
          have Hm7 := Lib.hid hm7
          clear hm6 hm7
          go_wp2_with fail
          refine HC2.out.mono ?_
          rintro e w7 ⟨rfl, m8, hm8⟩
          have Hm8 := Lib.hid (show w7 = w.drewN (m + m6 + m8) from by rw [hm8, Hm7.out, World.drewN_drewN])
          clear hm8
          go_wp2_with fail
          go_meet
          exact ⟨by rw [R.out], _, Hm8.out⟩
    case rest =>
      obtain ⟨rfl, m9, hm9⟩ := hcut
      have he9 : wc.cell? ⟨pe, 0, none⟩ = some (.pointer (some ⟨eb, 0, none⟩)) := by rw [hm9]; exact He.out
      have hE9 : EdB wc eb f := by rw [hm9]; exact HE.out
      have hg9 : w.grownBy wc (some eb) := by rw [hm9]; exact ⟨rfl, rfl, rfl, Nat.le_refl _, fun _ _ _ => rfl⟩
      have HA9 := Lib.hid (HA.out m9)
      rw [← hm9] at HA9
      have HE9 := Lib.hid hE9
      have Hg9 := Lib.hid hg9
      clear hm9 hE9 hg9
      cases X with
      | true =>
        go_wp2_with fail
        refine HA9.out.mono ?_
        rintro e w7 ⟨rfl, hE7, hg7⟩
        have HE7 := Lib.hid hE7
        have Hg7 := Lib.hid (sn_tr Hg9.out hg7)
        clear hE7 hg7
        go_wp2_with fail
        go_end0
        exact ⟨rfl, HE7.out, Hg7.out⟩
      | false =>
        go_wp2_with fail
        go_end0
        exact ⟨rfl, HE9.out, Hg9.out⟩
theorem ent100 (c1 c2 : Value) (x y : Int) (w : World) : (callFunc 100 #[.int .i64 x, .int .i64 y, c1, c2]).run Try.prog w = .ok (.enter 100 #[.int .i64 x, .int .i64 y, c1, c2]) w := by
  kernel_rfl
#print axioms edges1_any
/-- the edges behind the first j pairs of the i-th transaction -/
def seR (h : List NOp) (W F : Nat → Nat) (l : List Nat) (i : Nat) (f : Nat → Nat) : Nat → Nat → Nat
  | 0 => f
  | j + 1 => if l.getD i 0 ≠ l.getD j 0 ∧ SnE h W F l (l.getD i 0) (l.getD j 0) then fun a => if a = l.getD i 0 then seR h W F l i f j (l.getD i 0) ||| 2 ^ l.getD j 0 else seR h W F l i f j a else seR h W F l i f j
def seT (h : List NOp) (W F : Nat → Nat) (l : List Nat) : Nat → Nat → Nat
  | 0 => fun _ => 0
  | i + 1 => seR h W F l i (seT h W F l i) l.length
theorem seR_lt {h : List NOp} {W F : Nat → Nat} {l : List Nat} (h7 : ∀ x, x ∈ l → x < 7) {i : Nat} {f : Nat → Nat} (hf : ∀ x, f x < 128) : ∀ j, j ≤ l.length → ∀ x, seR h W F l i f j x < 128
  | 0, _, x => hf x
  | j + 1, hj, x => by
    have ih := seR_lt (h := h) (W := W) (F := F) h7 (i := i) hf j (by omega)
    rw [seR]
    split
    · show (if x = l.getD i 0 then _ else _) < 128
      split
      · exact Nat.or_lt_two_pow (n := 7) (ih _) (Nat.pow_lt_pow_right (by decide) (h7 _ (getD_mem (by omega))))
      · exact ih x
    · exact ih x
theorem seT_lt {h : List NOp} {W F : Nat → Nat} {l : List Nat} (h7 : ∀ x, x ∈ l → x < 7) : ∀ i x, seT h W F l i x < 128
  | 0, x => by simp [seT]
  | i + 1, x => by rw [seT]; exact seR_lt h7 (seT_lt h7 i) _ (Nat.le_refl _) x
set_option maxRecDepth 100000 in
set_option maxHeartbeats 4000000 in
theorem snEdges_any {w : World} {b : Nat} {h : List NOp} {W F : Nat → Nat} {l : List Nat} {u : Value} (s : SnB w b h W F u) (hin : Ints w u (castN l)) (h7 : ∀ x, x ∈ l → x < 7) (hl : l.length ≤ 7) (hW : ∀ x, W x < 128) (hF : ∀ x, F x < 128) :
    Calls Try.prog 68 #[.pointer (some ⟨b, 0, none⟩)] w fun e w' => e = .returned (.pointer (some ⟨w.heap.size + 1, 0, none⟩)) ∧ EdB w' (w.heap.size + 1) (seT h W F l l.length) ∧ Below w.heap.size w w' := by
  obtain ⟨wa, hwa⟩ : ∃ wa, wa = w.alloc (.cells #[.pointer (some ⟨b, 0, none⟩)] 93) := ⟨_, rfl⟩
  have sa : wa.heap.size = w.heap.size + 1 := by rw [hwa]; simp
  obtain ⟨wb, hwb⟩ : ∃ wb, wb = wa.alloc (.cells #[.int .i64 0, .int .i64 0, .int .i64 0, .int .i64 0, .int .i64 0, .int .i64 0, .int .i64 0] 120) := ⟨_, rfl⟩
  have sb : wb.heap.size = w.heap.size + 2 := by rw [hwb]; simp [sa]
  obtain ⟨w2, hw2⟩ : ∃ w2, w2 = wb.alloc (.cells #[.pointer (some ⟨w.heap.size + 1, 0, none⟩)] 73) := ⟨_, rfl⟩
  have ba : Below w.heap.size w wa := by rw [hwa]; exact below_alloc _ _
  have bb : Below wa.heap.size wa wb := by rw [hwb]; exact below_alloc _ _
  have bc : Below wb.heap.size wb w2 := by rw [hw2]; exact below_alloc _ _
  have hb2 : Below w.heap.size w w2 := Below.tr (Below.tr ba bb) bc
  have hp2 : w2.cell? ⟨w.heap.size, 0, none⟩ = some (.pointer (some ⟨b, 0, none⟩)) := Below.keep (Below.tr bb bc) (by rw [hwa]; exact cell_new w #[.pointer (some ⟨b, 0, none⟩)] 93 0)
  have he2 : w2.cell? ⟨w.heap.size + 2, 0, none⟩ = some (.pointer (some ⟨w.heap.size + 1, 0, none⟩)) := by
    rw [hw2, ← sb]; exact cell_new wb _ _ 0
  have hE2 : EdB w2 (w.heap.size + 1) (fun _ => 0) := Blk.keep (show EdB wb (w.heap.size + 1) (fun _ => 0) from by
    rw [hwb, ← sa]; exact blk_new wa 120 7 (fun _ => .int .i64 0)) bc
  have hInv : Inv 100 (.pointer (some ⟨w.heap.size, 0, none⟩)) (.pointer (some ⟨w.heap.size + 2, 0, none⟩)) b u l (fun i j w' => j ≤ l.length ∧ Below w.heap.size w w' ∧ (w'.cell? ⟨w.heap.size, 0, none⟩ = some (.pointer (some ⟨b, 0, none⟩)) ∧ w'.cell? ⟨w.heap.size + 2, 0, none⟩ = some (.pointer (some ⟨w.heap.size + 1, 0, none⟩))) ∧ EdB w' (w.heap.size + 1) (seR h W F l i (seT h W F l i) j)) :=
    { ent := fun x y w => ent100 _ _ x y w
      step := fun i j w' hI hi hj hne => by
        obtain ⟨hjl, hb, ⟨hp, he⟩, hE⟩ := hI
        refine (edges1_any (Blk.keep s hb) (hin.keep hb) h7 hl hp he hE (seR_lt h7 (seT_lt h7 i) j hjl) (h7 _ (getD_mem hi)) (h7 _ (getD_mem hj)) hW hF).mono ?_
        rintro e w'' ⟨rfl, hE', hg⟩
        refine ⟨rfl, by omega, Below.grown hb hg hb.size (fun k hk => by injection hk with hk; omega), ⟨grown_cell hp hg (by omega), grown_cell he hg (by omega)⟩, ?_⟩
        rw [seR]
        by_cases q : SnE h W F l (l.getD i 0) (l.getD j 0)
        · rw [if_pos q] at hE'
          rw [if_pos ⟨hne, q⟩]; exact hE'
        · rw [if_neg q] at hE'
          rw [if_neg (fun r => q r.2)]; exact hE'
      skip := fun i j w' hI hi hj he' => by
        obtain ⟨hjl, hb, hpe, hE⟩ := hI
        refine ⟨by omega, hb, hpe, ?_⟩
        rw [seR, if_neg (fun r => r.1 he')]; exact hE
      next := fun i w' hI => by
        obtain ⟨hjl, hb, hpe, hE⟩ := hI
        exact ⟨Nat.zero_le _, hb, hpe, hE⟩
      list := fun i j w' hI => ⟨(show SnB w' b h W F u from Blk.keep s hI.2.1).li, hin.keep hI.2.1⟩ }
  have HP := Lib.hid (pairs_any hInv hl w2 ⟨Nat.zero_le _, hb2, ⟨hp2, he2⟩, hE2⟩)
  clear hInv s hin h7 hl hW hF hb2 hE2 ba bb bc
  subst hwa hwb
  go_enter Try.func68, Try.ntmps68
  go_upto_region 2 with fail
  rw [← hw2]
  clear hw2 sa sb
  go_wp2_with fail
  refine HP.out.mono ?_
  rintro e w3 ⟨rfl, _, hb3, ⟨_, he3⟩, hE3⟩
  have Hb3 := Lib.hid hb3
  have HE3 := Lib.hid hE3
  clear hb3 hE3 hp2 he2
  go_wp2_with fail
  go_ret
  exact ⟨rfl, HE3.out, Hb3.out⟩
#print axioms snEdges_any
/-- allowed by snapshots -/
def AllP (h : List NOp) : Prop := ∀ a, a ∈ comN h 7 → ∀ c, c ∈ comN h 7 → a ≠ c → ¬ Bad h (snW h h.length) a c
set_option maxRecDepth 100000 in
set_option maxHeartbeats 4000000 in
theorem snap_bad {l : List HOp} (hn : ¬ ValidH l) (v : Value) (w : World) (hv : Ops w v l) :
    Calls Try.prog 32 #[v] w fun e w' => e = .returned (.tuple #[.bool false, .int .i64 2]) ∧ Below w.heap.size w w' := by
  have HV := Lib.hid (valid_any l v w hv)
  rw [decide_eq_false hn] at HV
  obtain ⟨a, c, rfl⟩ := ops_slice hv
  clear hv hn
  go_enter Try.func32, Try.ntmps32
  go_wp2_with fail
  refine HV.out.mono ?_
  rintro e w1 ⟨rfl, hb1⟩
  have Hb1 := Lib.hid hb1
  clear hb1
  go_wp2_with fail
  go_ret2
  exact ⟨rfl, Hb1.out⟩
set_option maxRecDepth 100000 in
set_option maxHeartbeats 4000000 in
theorem snap_any {h : List NOp} (hh : VH h) (v : Value) (w : World) (hv : Ops w v (castO h)) :
    Calls Try.prog 32 #[v] w fun e w' => ∃ B : Bool, e = .returned (.tuple #[.bool B, .int .i64 0]) ∧ (B = true ↔ AllP h) ∧ Below w.heap.size w w' := by
  have HV := Lib.hid (valid_any (castO h) v w hv)
  rw [decide_eq_true (valid_of hh)] at HV
  have HS := Lib.hid (fun (w' : World) (hb : Below w.heap.size w w') => snapshotsOf_any hh v w' (Ops.keep hv hb))
  have HW := Lib.hid (snW_lt hh h.length (Nat.le_refl _))
  have Hl := Lib.hid (comN_le h 7)
  obtain ⟨a, c, rfl⟩ := ops_slice hv
  clear hv hh
  go_enter Try.func32, Try.ntmps32
  go_wp2_with fail
  refine HV.out.mono ?_
  rintro e w1 ⟨rfl, hb1⟩
  have Hb1 := Lib.hid hb1
  have HS1 := Lib.hid (HS.out w1 hb1)
  clear hb1 HV HS
  go_wp2_with fail
  refine HS1.out.mono ?_
  rintro e w2 ⟨b, u, rfl, _, hs, hi, hb2⟩
  have HA := Lib.hid (allowed_any hs hi (fun x hx => comN_lt hx) Hl.out HW.out)
  have Hb2 := Lib.hid (Below.tr Hb1.out hb2)
  clear hs hi hb2 HS1
  go_wp2_with fail
  refine HA.out.mono ?_
  rintro e w3 ⟨B, rfl, hB, hb3⟩
  have HB := Lib.hid hB
  have Hb3 := Lib.hid (Below.tr Hb2.out hb3)
  clear hB hb3
  go_wp2_with fail
  go_ret2
  exact ⟨B, rfl, HB.out, Hb3.out⟩
#print axioms snap_any
/-- the edges under snapshots -/
def snEd (h : List NOp) : Nat → Nat := seT h (snW h h.length) (snR h h.length) (comN h 7) (comN h 7).length
/-- the first order under snapshots -/
def snOrd (h : List NOp) : Option (List Nat) := fo (snEd h) (comN h 7).length (comN h 7) []
set_option maxRecDepth 100000 in
set_option maxHeartbeats 4000000 in
theorem snOrder_bad {l : List HOp} (hn : ¬ ValidH l) (v : Value) (w : World) (hv : Ops w v l) :
    Calls Try.prog 33 #[v] w fun e w' => e = .returned (.tuple #[.slice none 0 0, .int .i64 2]) ∧ Below w.heap.size w w' := by
  have HV := Lib.hid (valid_any l v w hv)
  rw [decide_eq_false hn] at HV
  obtain ⟨a, c, rfl⟩ := ops_slice hv
  clear hv hn
  go_enter Try.func33, Try.ntmps33
  go_wp2_with fail
  refine HV.out.mono ?_
  rintro e w1 ⟨rfl, hb1⟩
  have Hb1 := Lib.hid hb1
  clear hb1
  go_wp2_with fail
  go_ret2
  exact ⟨rfl, Hb1.out⟩
set_option maxRecDepth 100000 in
set_option maxHeartbeats 8000000 in
theorem snOrder_not {h : List NOp} (hh : VH h) (hP : ¬ AllP h) (v : Value) (w : World) (hv : Ops w v (castO h)) :
    Calls Try.prog 33 #[v] w fun e w' => e = .returned (.tuple #[.slice none 0 0, .int .i64 7]) ∧ Below w.heap.size w w' := by
  have HV := Lib.hid (valid_any (castO h) v w hv)
  rw [decide_eq_true (valid_of hh)] at HV
  have HS := Lib.hid (fun (w' : World) (hb : Below w.heap.size w w') => snapshotsOf_any hh v w' (Ops.keep hv hb))
  have HW := Lib.hid (snW_lt hh h.length (Nat.le_refl _))
  have HR := Lib.hid (snR_lt hh h.length (Nat.le_refl _))
  have Hl := Lib.hid (comN_le h 7)
  have HF := Lib.hid (fun (be : Nat) (v : Value) (w : World) (hE : EdB w be (snEd h)) (hv : Ints w v (castN (comN h 7))) => firstOrder_any (seT_lt (fun x hx => comN_lt hx) _) (fun x hx => comN_lt hx) (by have := Hl.out; omega) v w hE hv)
  obtain ⟨a, c, rfl⟩ := ops_slice hv
  clear hv hh
  go_enter Try.func33, Try.ntmps33
  go_wp2_with fail
  refine HV.out.mono ?_
  rintro e w1 ⟨rfl, hb1⟩
  have Hb1 := Lib.hid hb1
  have HS1 := Lib.hid (HS.out w1 hb1)
  clear hb1 HV HS
  go_wp2_with fail
  refine HS1.out.mono ?_
  rintro e w2 ⟨b, u, rfl, _, hs, hi, hb2⟩
  have HA := Lib.hid (allowed_any hs hi (fun x hx => comN_lt hx) Hl.out HW.out)
  have Hb2 := Lib.hid (Below.tr Hb1.out hb2)
  have Hs := Lib.hid hs
  have Hi := Lib.hid hi
  clear hs hi hb2 HS1
  go_wp2_with fail
  refine HA.out.mono ?_
  rintro e w3 ⟨B, rfl, hB, hb3⟩
  have HB := Lib.hid hB
  have Hb3 := Lib.hid (Below.tr Hb2.out hb3)
  have Hs3 := Lib.hid (show SnB w3 b h _ _ u from Blk.keep Hs.out hb3)
  have Hi3 := Lib.hid (Ints.keep Hi.out hb3)
  clear hB hb3 HA
  cases B with
  | true => exact absurd (HB.out.1 rfl) hP
  | false =>
    go_wp2_with fail
    go_ret2
    exact ⟨rfl, Hb3.out⟩
set_option maxRecDepth 100000 in
set_option maxHeartbeats 8000000 in
theorem snOrder_all {h : List NOp} (hh : VH h) (hP : AllP h) (v : Value) (w : World) (hv : Ops w v (castO h)) :
    Calls Try.prog 33 #[v] w fun e w' => ∃ v', e = .returned (.tuple #[v', .int .i64 (if (snOrd h).isSome then 0 else 5)]) ∧ Ints w' v' (castN ((snOrd h).getD [])) ∧ Below w.heap.size w w' := by
  obtain ⟨E, hE⟩ : ∃ E : Int, E = if (snOrd h).isSome then (0 : Int) else 5 := ⟨_, rfl⟩
  rw [← hE]
  have HE := Lib.hid hE
  clear hE
  have HV := Lib.hid (valid_any (castO h) v w hv)
  rw [decide_eq_true (valid_of hh)] at HV
  have HS := Lib.hid (fun (w' : World) (hb : Below w.heap.size w w') => snapshotsOf_any hh v w' (Ops.keep hv hb))
  have HW := Lib.hid (snW_lt hh h.length (Nat.le_refl _))
  have HR := Lib.hid (snR_lt hh h.length (Nat.le_refl _))
  have Hl := Lib.hid (comN_le h 7)
  have HF := Lib.hid (fun (be : Nat) (v : Value) (w : World) (hE : EdB w be (snEd h)) (hv : Ints w v (castN (comN h 7))) => firstOrder_any (seT_lt (fun x hx => comN_lt hx) _) (fun x hx => comN_lt hx) (by have := Hl.out; omega) v w hE hv)
  obtain ⟨a, c, rfl⟩ := ops_slice hv
  clear hv hh
  go_enter Try.func33, Try.ntmps33
  go_wp2_with fail
  refine HV.out.mono ?_
  rintro e w1 ⟨rfl, hb1⟩
  have Hb1 := Lib.hid hb1
  have HS1 := Lib.hid (HS.out w1 hb1)
  clear hb1 HV HS
  go_wp2_with fail
  refine HS1.out.mono ?_
  rintro e w2 ⟨b, u, rfl, _, hs, hi, hb2⟩
  have HA := Lib.hid (allowed_any hs hi (fun x hx => comN_lt hx) Hl.out HW.out)
  have Hb2 := Lib.hid (Below.tr Hb1.out hb2)
  have Hs := Lib.hid hs
  have Hi := Lib.hid hi
  clear hs hi hb2 HS1
  go_wp2_with fail
  refine HA.out.mono ?_
  rintro e w3 ⟨B, rfl, hB, hb3⟩
  have HB := Lib.hid hB
  have Hb3 := Lib.hid (Below.tr Hb2.out hb3)
  have Hs3 := Lib.hid (show SnB w3 b h _ _ u from Blk.keep Hs.out hb3)
  have Hi3 := Lib.hid (Ints.keep Hi.out hb3)
  clear hB hb3 HA
  cases B with
  | false => exact absurd (HB.out.2 hP) (by decide)
  | true =>
    clear hP
    obtain ⟨ua, uc, hu⟩ : ∃ a c, u = .slice a (comN h 7).length c := by
      obtain ⟨a, c, e⟩ := ints_slice Hi3.out
      rw [castN_length] at e
      exact ⟨a, c, e⟩
    subst hu
    have Hli := Lib.hid (Hs3.out.li)
    have Hb3d := Lib.hid (show Below w.heap.size w w3.drew from Hb3.out.drew)
    have HEg := Lib.hid (snEdges_any (w := w3.drew) (show SnB w3.drew b h _ _ _ from Hs3.out) (show Ints w3.drew _ _ from Hi3.out) (fun x hx => comN_lt hx) Hl.out HW.out HR.out)
    go_upto_region 6 with fail
    go_cut [5, 6] from 15 to 24 (fun o5 o6 wx => ∃ v6, o5 = v6 ∧ o6 = .bool (snOrd h).isSome ∧ Ints wx v6 (castN ((snOrd h).getD [])) ∧ Below w.heap.size w wx)
    case first =>
      refine wp_region_any (by kernel_rfl) ?_
      change wpAny _ _ _ _ _ _ _ (World.drew _)
      refine wpAny_take (i := 0) (v := ?_) rfl (by kernel_rfl) (by kernel_rfl) (by kernel_rfl) (fun _ _ _ h => h) (Or.inl ⟨by rfl, ?_⟩) ?_
      rotate_left
      focus (first | (intro w; go_simp; done) | (intro w; go_simp; with_reducible rfl))
      simp only [Act.put, List.getElem_toArray, List.getElem_cons_zero, List.setIfInBounds_toArray, List.set_cons_zero, List.set_cons_succ]
      refine wpAny_take (i := 2) (v := ?_) rfl (by kernel_rfl) (by kernel_rfl) (by kernel_rfl) (fun _ _ _ h => h) (Or.inl ⟨by rfl, ?_⟩) ?_
      rotate_left
      focus (first | (intro w; go_simp; done) | (intro w; go_simp; with_reducible rfl))
      simp only [Act.put, List.getElem_toArray, List.getElem_cons_zero, List.getElem_cons_succ, List.setIfInBounds_toArray, List.set_cons_zero, List.set_cons_succ]
      refine wpAny_take (i := 3) (v := ?_) rfl (by kernel_rfl) (by kernel_rfl) (by kernel_rfl) (fun _ _ _ h => h) (Or.inl ⟨by rfl, ?_⟩) ?_
      rotate_left
      focus (first | (intro w; go_simp; done) | (intro w; go_simp; with_reducible rfl))
      simp only [Act.put, List.getElem_toArray, List.getElem_cons_zero, List.getElem_cons_succ, List.setIfInBounds_toArray, List.set_cons_zero, List.set_cons_succ]
      refine wpAny_take (i := 4) (v := ?_) rfl (by kernel_rfl) (by kernel_rfl) (by kernel_rfl) (fun _ _ _ h => h) (Or.inl ⟨by rfl, ?_⟩) ?_
      rotate_left
      focus (first | (intro w; go_simp; done) | (intro w; go_simp; with_reducible rfl))
      simp only [Act.put, List.getElem_toArray, List.getElem_cons_zero, List.getElem_cons_succ, List.setIfInBounds_toArray, List.set_cons_zero, List.set_cons_succ]
      refine wpAny_ready (rs := [1, 5]) (by kernel_rfl) (by simp) ?_
      refine AllReady.cons rfl (fun K hK => ?_) ?_
      · go_simp
        go_at_call 68
        refine (HEg.out).mono ?_
        rintro e w5 ⟨rfl, hE5, hb5⟩
        have hli := Below.keep hb5 Hli.out
        have HF5 := Lib.hid (HF.out _ _ _ hE5 (Ints.keep (show Ints w3.drew _ _ from Hi3.out) hb5))
        have Hb5 := Lib.hid (Below.tr Hb3d.out hb5)
        clear hb5 hE5
        go_simp
        refine hK _ _ ?_
        clear hK K
        refine wpAny_ready (rs := [5]) (by kernel_rfl) (by simp) ?_
        refine AllReady.cons rfl (fun K hK => ?_) AllReady.nil
        go_simp
        refine hK _ _ ?_
        clear hK K
        refine wpAny_ready (rs := [6]) (by kernel_rfl) (by simp) ?_
        refine AllReady.cons rfl (fun K hK => ?_) AllReady.nil
        go_simp
        go_at_call 54
        refine HF5.out.mono ?_
        rintro e w6 ⟨v6, rfl, hi6, hb6⟩
        have H6 := Lib.hid (And.intro hi6 (Below.tr Hb5.out hb6))
        clear hi6 hb6
        go_simp
        refine hK _ _ ?_
        clear hK K
        refine wpAny_take (i := 7) (v := ?_) rfl (by kernel_rfl) (by kernel_rfl) (by kernel_rfl) (fun _ _ _ h => h) (Or.inl ⟨by rfl, ?_⟩) ?_
        rotate_left
        focus (first | (intro w; go_simp; done) | (intro w; go_simp; with_reducible rfl))
        simp only [Act.put, List.getElem_toArray, List.getElem_cons_zero, List.getElem_cons_succ, List.setIfInBounds_toArray, List.set_cons_zero, List.set_cons_succ]
        refine wpAny_take (i := 8) (v := ?_) rfl (by kernel_rfl) (by kernel_rfl) (by kernel_rfl) (fun _ _ _ h => h) (Or.inl ⟨by rfl, ?_⟩) ?_
        rotate_left
        focus (first | (intro w; go_simp; done) | (intro w; go_simp; with_reducible rfl))
        simp only [Act.put, List.getElem_toArray, List.getElem_cons_zero, List.getElem_cons_succ, List.setIfInBounds_toArray, List.set_cons_zero, List.set_cons_succ]
        refine wpAny_take (i := 9) (v := ?_) rfl (by kernel_rfl) (by kernel_rfl) (by kernel_rfl) (fun _ _ _ h => h) (Or.inl ⟨by rfl, ?_⟩) ?_
        rotate_left
        focus (first | (intro w; go_simp; done) | (intro w; go_simp; with_reducible rfl))
        simp only [Act.put, List.getElem_toArray, List.getElem_cons_zero, List.getElem_cons_succ, List.setIfInBounds_toArray, List.set_cons_zero, List.set_cons_succ]
        refine wpAny_take (i := 10) (v := ?_) rfl (by kernel_rfl) (by kernel_rfl) (by kernel_rfl) (fun _ _ _ h => h) (Or.inl ⟨by rfl, ?_⟩) ?_
        rotate_left
        focus (first | (intro w; go_simp; done) | (intro w; go_simp; with_reducible rfl))
        simp only [Act.put, List.getElem_toArray, List.getElem_cons_zero, List.getElem_cons_succ, List.setIfInBounds_toArray, List.set_cons_zero, List.set_cons_succ]
        refine wpAny_take (i := 11) (v := ?_) rfl (by kernel_rfl) (by kernel_rfl) (by kernel_rfl) (fun _ _ _ h => h) (Or.inl ⟨by rfl, ?_⟩) ?_
        rotate_left
        focus (first | (intro w; go_simp; done) | (intro w; go_simp; with_reducible rfl))
        simp only [Act.put, List.getElem_toArray, List.getElem_cons_zero, List.getElem_cons_succ, List.setIfInBounds_toArray, List.set_cons_zero, List.set_cons_succ]
        refine wpAny_done (by kernel_rfl) ?_ _
        go_wp2_with fail
        go_meet
        exact ⟨_, rfl, rfl, H6.out.1, H6.out.2⟩
      · refine AllReady.cons rfl (fun K hK => ?_) AllReady.nil
        have hli := Hli.out
        go_simp
        refine hK _ _ ?_
        clear hK K
        clear hli
        refine wpAny_ready (rs := [1]) (by kernel_rfl) (by simp) ?_
        refine AllReady.cons rfl (fun K hK => ?_) AllReady.nil
        go_simp
        go_at_call 68
        refine (HEg.out).mono ?_
        rintro e w5 ⟨rfl, hE5, hb5⟩
        have hli := Below.keep hb5 Hli.out
        have HF5 := Lib.hid (HF.out _ _ _ hE5 (Ints.keep (show Ints w3.drew _ _ from Hi3.out) hb5))
        have Hb5 := Lib.hid (Below.tr Hb3d.out hb5)
        clear hb5 hE5
        go_simp
        refine hK _ _ ?_
        clear hK K
        refine wpAny_ready (rs := [6]) (by kernel_rfl) (by simp) ?_
        refine AllReady.cons rfl (fun K hK => ?_) AllReady.nil
        go_simp
        go_at_call 54
        refine HF5.out.mono ?_
        rintro e w6 ⟨v6, rfl, hi6, hb6⟩
        have H6 := Lib.hid (And.intro hi6 (Below.tr Hb5.out hb6))
        clear hi6 hb6
        go_simp
        refine hK _ _ ?_
        clear hK K
        refine wpAny_take (i := 7) (v := ?_) rfl (by kernel_rfl) (by kernel_rfl) (by kernel_rfl) (fun _ _ _ h => h) (Or.inl ⟨by rfl, ?_⟩) ?_
        rotate_left
        focus (first | (intro w; go_simp; done) | (intro w; go_simp; with_reducible rfl))
        simp only [Act.put, List.getElem_toArray, List.getElem_cons_zero, List.getElem_cons_succ, List.setIfInBounds_toArray, List.set_cons_zero, List.set_cons_succ]
        refine wpAny_take (i := 8) (v := ?_) rfl (by kernel_rfl) (by kernel_rfl) (by kernel_rfl) (fun _ _ _ h => h) (Or.inl ⟨by rfl, ?_⟩) ?_
        rotate_left
        focus (first | (intro w; go_simp; done) | (intro w; go_simp; with_reducible rfl))
        simp only [Act.put, List.getElem_toArray, List.getElem_cons_zero, List.getElem_cons_succ, List.setIfInBounds_toArray, List.set_cons_zero, List.set_cons_succ]
        refine wpAny_take (i := 9) (v := ?_) rfl (by kernel_rfl) (by kernel_rfl) (by kernel_rfl) (fun _ _ _ h => h) (Or.inl ⟨by rfl, ?_⟩) ?_
        rotate_left
        focus (first | (intro w; go_simp; done) | (intro w; go_simp; with_reducible rfl))
        simp only [Act.put, List.getElem_toArray, List.getElem_cons_zero, List.getElem_cons_succ, List.setIfInBounds_toArray, List.set_cons_zero, List.set_cons_succ]
        refine wpAny_take (i := 10) (v := ?_) rfl (by kernel_rfl) (by kernel_rfl) (by kernel_rfl) (fun _ _ _ h => h) (Or.inl ⟨by rfl, ?_⟩) ?_
        rotate_left
        focus (first | (intro w; go_simp; done) | (intro w; go_simp; with_reducible rfl))
        simp only [Act.put, List.getElem_toArray, List.getElem_cons_zero, List.getElem_cons_succ, List.setIfInBounds_toArray, List.set_cons_zero, List.set_cons_succ]
        refine wpAny_take (i := 11) (v := ?_) rfl (by kernel_rfl) (by kernel_rfl) (by kernel_rfl) (fun _ _ _ h => h) (Or.inl ⟨by rfl, ?_⟩) ?_
        rotate_left
        focus (first | (intro w; go_simp; done) | (intro w; go_simp; with_reducible rfl))
        simp only [Act.put, List.getElem_toArray, List.getElem_cons_zero, List.getElem_cons_succ, List.setIfInBounds_toArray, List.set_cons_zero, List.set_cons_succ]
        refine wpAny_done (by kernel_rfl) ?_ _
        go_wp2_with fail
        go_meet
        exact ⟨_, rfl, rfl, H6.out.1, H6.out.2⟩
    case rest =>
      obtain ⟨v6, rfl, rfl, hi, hb⟩ := hcut
      have Hix := Lib.hid hi
      have Hbx := Lib.hid hb
      clear hi hb
      cases hO : snOrd h with
      | some x =>
        have HEz := Lib.hid (show E = 0 by rw [HE.out, hO]; rfl)
        have HO := Lib.hid hO
        go_wp2_with fail
        go_ret2
        exact ⟨_, by rw [HEz.out]; rfl, by exact Hix.out, Hbx.out⟩
      | none =>
        have HEz := Lib.hid (show E = 5 by rw [HE.out, hO]; rfl)
        have HO := Lib.hid hO
        go_wp2_with fail
        go_ret2
        exact ⟨_, by rw [HEz.out]; rfl, by rw [HO.out]; exact ints_nil _, Hbx.out⟩
#print axioms snOrder_all
#print axioms snOrder_not
end Go.Proofs.Ytpehbffkplmfjaa

/- Contract of lastBefore. -/
import Derived.Test.YtpehbffkplmfjaaSnp
import Derived.Test.YtpehbffkplmfjaaClo
namespace Go.Proofs.Ytpehbffkplmfjaa
open Go.RowKit
/-- whether t comes in last's place: it writes the item, and committed before i, behind last -/
def LbC (h : List NOp) (W : Nat → Nat) (item i last t : Nat) : Prop := (W t).testBit item = true ∧ lv h h.length (7 + t) < i ∧ (last = 0 ∨ lv h h.length (7 + last) < lv h h.length (7 + t))
instance (h : List NOp) (W : Nat → Nat) (item i last t : Nat) : Decidable (LbC h W item i last t) := inferInstanceAs (Decidable (_ ∧ _ ∧ _))
def lbTo (h : List NOp) (W : Nat → Nat) (item i : Nat) (l : List Nat) : Nat → Nat
  | 0 => 0
  | k + 1 => if LbC h W item i (lbTo h W item i l k) (l.getD k 0) then l.getD k 0 else lbTo h W item i l k
theorem lb_lt {h : List NOp} {W : Nat → Nat} {item i : Nat} {l : List Nat} (h7 : ∀ x, x ∈ l → x < 7) : ∀ k, k ≤ l.length → lbTo h W item i l k < 7
  | 0, _ => by rw [lbTo]; omega
  | k + 1, hk => by
    rw [lbTo]
    split
    · exact h7 _ (getD_mem (by omega))
    · exact lb_lt h7 k (by omega)
set_option maxRecDepth 100000 in
set_option maxHeartbeats 8000000 in
theorem lastBefore_any {w : World} {b : Nat} {h : List NOp} {W F : Nat → Nat} {l : List Nat} {v : Value} (s : SnB w b h W F v) (hl : Ints w v (castN l)) (h7 : ∀ x, x ∈ l → x < 7) (hW : ∀ x, W x < 128) (hln : l.length ≤ 7) {item : Nat} (hit : item < 6) (i : Nat) :
    Calls Try.prog 113 #[.pointer (some ⟨b, 0, none⟩), .int .i64 item, .int .i64 i] w fun e w' => e = .returned (.int .i64 (lbTo h W item i l l.length : Nat)) ∧ ∃ m, w' = w.drewN m := by
  obtain ⟨a4, b4, off4, cap4, rfl, hle, ha4, hc4⟩ := IntsN.get hl
  have hix := run_ix (P := Try.prog) (t := 24) (a := a4) (len := l.length) (cap := cap4) (b := b4) (off := off4) (s := 1) Try.underlying24 (by intro w; kernel_rfl) ha4
  simp only [Nat.mul_one] at hix
  have Hix := Lib.hid hix
  have Hc4 := Lib.hid hc4
  have Hs := Lib.hid s
  have H7 := Lib.hid h7
  have HW := Lib.hid hW
  have Hlb := Lib.hid (lb_lt (h := h) (W := W) (item := item) (i := i) h7)
  have Hst := Lib.hid (show ∀ k, lbTo h W item i l (k + 1) = if LbC h W item i (lbTo h W item i l k) (l.getD k 0) then l.getD k 0 else lbTo h W item i l k from fun k => rfl)
  have hli := s.li
  obtain ⟨P, hP, p1, p2, p3⟩ := pow_name item (by omega)
  have hti : (item : Int) < 64 := by omega
  have ht0 : (0 : Int) ≤ (item : Int) := by omega
  have H0 := Lib.hid (show lbTo h W item i l 0 = 0 from rfl)
  obtain ⟨L, hL⟩ : ∃ L, L = lbTo h W item i l := ⟨_, rfl⟩
  rw [← hL] at Hlb Hst H0 ⊢
  clear hL hix hc4 ha4 hle s h7 hW hl hP
  go_enter Try.func113, Try.ntmps113
  go_wp2_with fail
  go_loopw [7, 15] (fun o vk wr => ∃ k : Nat, vk = .int .i64 k ∧ k ≤ l.length ∧ o = .int .i64 (L k : Nat) ∧ ∃ m, wr = w.drewN m) (fun _ vk _ => l.length - (intOf vk).toNat)
  case atStart => exact ⟨0, rfl, Nat.zero_le _, by rw [H0.out]; rfl, 0, rfl⟩
  case round =>
    obtain ⟨k, rfl, hk, rfl, m, rfl⟩ := hrel
    by_cases hlt : k < l.length
    · have hck : (w.drewN m).cell? ⟨b4, off4 + k, none⟩ = some (.int .i64 (l.getD k 0 : Nat)) := Hc4.out k hlt
      have hixk := Hix.out k
      have ht7 := H7.out _ (getD_mem hlt)
      have hl7 := Hlb.out k hk
      have HS := Lib.hid (Hst.out k)
      obtain ⟨t, ht⟩ : ∃ t, t = l.getD k 0 := ⟨_, rfl⟩
      obtain ⟨la, hla⟩ : ∃ la, la = L k := ⟨_, rfl⟩
      rw [← ht] at hck ht7 HS
      rw [← hla] at hl7 HS ⊢
      obtain ⟨w5, hw5⟩ : ∃ w5, w5 = w.drewN m := ⟨_, rfl⟩
      have s5 : SnB w5 b h W F (.slice a4 l.length cap4) := by rw [hw5]; exact Hs.out.drewN m
      have Hw5 := Lib.hid hw5
      rw [← hw5] at hck ⊢
      have c1 := s5.wr ht7
      have c2 := s5.life (show 7 + t < 21 by omega)
      have c3 := s5.life (show 7 + la < 21 by omega)
      have t1 := shr_bit (W t) item (by have := HW.out t; omega)
      rw [p1] at t1
      obtain ⟨g, hg⟩ : ∃ g, g = W t := ⟨_, rfl⟩
      obtain ⟨q1, hq1⟩ : ∃ q, q = lv h h.length (7 + t) := ⟨_, rfl⟩
      obtain ⟨q2, hq2⟩ : ∃ q, q = lv h h.length (7 + la) := ⟨_, rfl⟩
      have HL := Lib.hid (show LbC h W item i la t ↔ g.testBit item = true ∧ q1 < i ∧ (la = 0 ∨ q2 < q1) from by rw [hg, hq1, hq2]; exact Iff.rfl)
      rw [← hg] at c1 t1
      rw [← hq1] at c2
      rw [← hq2] at c3
      have hta : (t : Int) < 7 := by omega
      have htb : (0 : Int) ≤ (t : Int) := by omega
      have hla7 : (la : Int) < 7 := by omega
      have hla0 : (0 : Int) ≤ (la : Int) := by omega
      clear ht hla hw5 s5 hg hq1 hq2 ht7 hl7
      obtain ⟨X, hX⟩ : ∃ X, X = decide (g.testBit item = true ∧ q1 < i ∧ (la = 0 ∨ q2 < q1)) := ⟨_, rfl⟩
      have HX := Lib.hid hX
      clear hX
      go_upto_region 5 with fail
      go_cut [60] from 19 to 60 (fun o wx => o = .bool X ∧ ∃ q, wx = w5.drewN q)
      case first =>
        cases hb : g.testBit item with
        | false =>
          have R := Lib.hid (show X = false by rw [HX.out]; exact decide_eq_false (fun q => by rw [hb] at q; cases q.1))
          simp only [hb, Bool.false_eq_true, if_false] at t1
          go_quiet (fail)
          go_wp2_with fail
          go_meet
          exact ⟨by rw [R.out], nq, rfl⟩
        | true =>
          simp only [hb, if_true] at t1
          by_cases e1 : q1 < i
          · have d1 : decide ((q1 : Int) < (i : Int)) = true := decide_eq_true (by omega)
            have d1' : decide (q1 < i) = true := decide_eq_true e1
            by_cases e2 : la = 0
            · have R := Lib.hid (show X = true by rw [HX.out]; exact decide_eq_true ⟨hb, e1, .inl e2⟩)
              have d2 : ((la : Int) == 0) = true := by rw [beq_iff_eq]; omega
              clear e1 e2
              go_quiet (fail)
              go_wp2_with fail
              go_meet
              exact ⟨by rw [R.out], nq, rfl⟩
            · have d2 : ((la : Int) == 0) = false := by rw [beq_eq_false_iff_ne]; omega
              obtain ⟨D, hD⟩ : ∃ D, D = decide (q2 < q1) := ⟨_, rfl⟩
              have d3 : decide ((q2 : Int) < (q1 : Int)) = D := by rw [hD]; exact decide_eq_decide.2 (by omega)
              have d3' : decide (q2 < q1) = D := hD.symm
              have R := Lib.hid (show X = D by rw [HX.out, hD]; exact decide_eq_decide.2 ⟨fun q => q.2.2.resolve_left e2, fun q => ⟨hb, e1, .inr q⟩⟩)
              clear e1 e2 hD
              go_quiet (fail)
              go_wp2_with fail
              go_meet
              exact ⟨by rw [R.out], nq, rfl⟩
          · have R := Lib.hid (show X = false by rw [HX.out]; exact decide_eq_false (fun q => e1 q.2.1))
            have d1 : decide ((q1 : Int) < (i : Int)) = false := decide_eq_false (by omega)
            have d1' : decide (q1 < i) = false := decide_eq_false e1
            clear e1
            go_quiet (fail)
            go_wp2_with fail
            go_meet
            exact ⟨by rw [R.out], nq, rfl⟩
      case rest =>
        obtain ⟨rfl, q, hwq⟩ := hcut
        have Hwq := Lib.hid (show wc = w.drewN (m + q) from by rw [hwq, Hw5.out, World.drewN_drewN])
        clear hwq hck c1 c2 c3 t1 hixk
        cases X with
        | true =>
          have R := Lib.hid (HS.out.trans (if_pos (HL.out.2 (of_decide_eq_true HX.out.symm))))
          go_wp2_with fail
          go_roundw
          case rel => exact ⟨k + 1, by go_num, by omega, by rw [R.out], _, Hwq.out⟩
          case measure => simp [intOf]; omega
        | false =>
          have R := Lib.hid (HS.out.trans (if_neg (fun q => of_decide_eq_false HX.out.symm (HL.out.1 q))))
          go_wp2_with fail
          go_roundw
          case rel => exact ⟨k + 1, by go_num, by omega, by rw [R.out], _, Hwq.out⟩
          case measure => simp [intOf]; omega
    · obtain rfl : k = l.length := by omega
      go_wp2_with fail
      go_ret
      exact ⟨rfl, m, rfl⟩
/-- c reads what a wrote -/
def rdB (h : List NOp) (W F : Nat → Nat) (l : List Nat) (a c : Nat) : Bool := (List.range 6).any fun it => (F c).testBit it && decide (lbTo h W it (lv h h.length c) l l.length = a)
set_option maxRecDepth 100000 in
set_option maxHeartbeats 8000000 in
theorem reads_any {w : World} {b : Nat} {h : List NOp} {W F : Nat → Nat} {l : List Nat} {v : Value} (s : SnB w b h W F v) (hl : Ints w v (castN l)) (h7 : ∀ x, x ∈ l → x < 7) (hW : ∀ x, W x < 128) (hF : ∀ x, F x < 128) (hln : l.length ≤ 7) {a c : Nat} (hc : c < 7) (B : Bool) (hB : rdB h W F l a c = B) :
    Calls Try.prog 101 #[.pointer (some ⟨b, 0, none⟩), .int .i64 a, .int .i64 c] w fun e w' => e = .returned (.bool B) ∧ ∃ m, w' = w.drewN m := by
  have HL := Lib.hid (fun (m it : Nat) (hit : it < 6) => lastBefore_any (s.drewN m) (Ints.keep hl (bdrewN (Below.refl _ _) m)) h7 hW hln hit (lv h h.length c))
  have Hs := Lib.hid s
  have hg := hF c
  have HBt := Lib.hid (fun (it : Nat) (hit : it < 6) (h1 : (F c).testBit it = true) (h2 : lbTo h W it (lv h h.length c) l l.length = a) => show B = true from by
    rw [← hB]; unfold rdB; rw [List.any_eq_true]
    exact ⟨it, List.mem_range.2 hit, by rw [h1, decide_eq_true h2]; rfl⟩)
  have HBf := Lib.hid (fun (hno : ∀ it, it < 6 → ¬ ((F c).testBit it = true ∧ lbTo h W it (lv h h.length c) l l.length = a)) => show B = false from by
    rw [← hB]; unfold rdB; rw [List.any_eq_false]
    intro it hit q
    rw [Bool.and_eq_true, decide_eq_true_eq] at q
    exact hno it (List.mem_range.1 hit) q)
  obtain ⟨p, hp⟩ : ∃ p, p = lv h h.length c := ⟨_, rfl⟩
  obtain ⟨g, hgg⟩ : ∃ g, g = F c := ⟨_, rfl⟩
  have Hc1 := Lib.hid (fun m => show (w.drewN m).cell? ⟨b, c, none⟩ = some (.int .i64 (p : Nat)) from by rw [hp]; exact (Hs.out.drewN m).life (by omega))
  have Hc2 := Lib.hid (fun m => show (w.drewN m).cell? ⟨b, 28 + c, none⟩ = some (.int .i64 (g : Nat)) from by rw [hgg]; exact (Hs.out.drewN m).fo hc)
  rw [← hp] at HL HBt HBf
  rw [← hgg] at HBt HBf hg
  obtain ⟨G, hG⟩ : ∃ G : Nat → Nat, G = fun it => lbTo h W it p l l.length := ⟨_, rfl⟩
  have HGe := Lib.hid (fun it => show lbTo h W it p l l.length = G it from by rw [hG])
  have hta : (c : Int) < 7 := by omega
  have htb : (0 : Int) ≤ (c : Int) := by omega
  clear hB hp hgg hG s hl h7 hW hF hln
  go_enter Try.func101, Try.ntmps101
  go_wp2_with fail
  go_loopw [8] (fun vk wr => ∃ k : Nat, vk = .int .i64 k ∧ k ≤ 6 ∧ (∃ m, wr = w.drewN m) ∧ ∀ it, it < k → ¬ (g.testBit it = true ∧ lbTo h W it p l l.length = a)) (fun vk _ => 6 - (intOf vk).toNat)
  case atStart => exact ⟨0, rfl, Nat.zero_le _, ⟨0, rfl⟩, fun it hit => by omega⟩
  case round =>
    obtain ⟨k, rfl, hk, ⟨m, rfl⟩, hno⟩ := hrel
    have Hno := Lib.hid hno
    clear hno
    by_cases hlt : k < 6
    · have HLk := Lib.hid (HL.out m k hlt)
      rw [HGe.out] at HLk
      have HBk := Lib.hid (fun (h1 : g.testBit k = true) (h2 : G k = a) => HBt.out k hlt h1 (by rw [HGe.out]; exact h2))
      have HNk := Lib.hid (fun (q : ¬ (g.testBit k = true ∧ G k = a)) => show ∀ it, it < k + 1 → ¬ (g.testBit it = true ∧ lbTo h W it p l l.length = a) from fun it hit => by
        by_cases e : it = k
        · subst e; rw [HGe.out]; exact q
        · exact Hno.out it (by omega))
      obtain ⟨w5, hw5⟩ : ∃ w5, w5 = w.drewN m := ⟨_, rfl⟩
      have c1 := Hc1.out m
      have c2 := Hc2.out m
      have Hw5 := Lib.hid hw5
      rw [← hw5] at c1 c2 HLk ⊢
      obtain ⟨P, hP, p1, p2, p3⟩ := pow_name k (by omega)
      have t1 := shr_bit g k (by omega)
      rw [p1] at t1
      have hti : (k : Int) < 64 := by omega
      have ht0 : (0 : Int) ≤ (k : Int) := by omega
      obtain ⟨z, hz⟩ : ∃ z, z = G k := ⟨_, rfl⟩
      rw [← hz] at HLk HBk HNk
      clear hw5 hP hz
      cases hb : g.testBit k with
      | false =>
        have R := Lib.hid (HNk.out (fun q => by rw [hb] at q; cases q.1))
        simp only [hb, Bool.false_eq_true, if_false] at t1
        clear hb
        go_wp2_with fail
        go_roundw
        case rel => exact ⟨k + 1, by go_num, by omega, ⟨m, Hw5.out⟩, R.out⟩
        case measure => simp [intOf]; omega
      | true =>
        simp only [hb, if_true] at t1
        by_cases e : z = a
        · have R := Lib.hid (HBk.out hb e)
          have q1 : ((z : Int) == (a : Int)) = true := by rw [beq_iff_eq]; omega
          clear hb e
          go_wp2_with fail
          refine HLk.out.mono ?_
          rintro e w6 ⟨rfl, m6, hm6⟩
          have Hm6 := Lib.hid (show w6 = w.drewN (m + m6) from by rw [hm6, Hw5.out, World.drewN_drewN])
          clear hm6
          go_wp2_with fail
          go_ret
          exact ⟨by rw [R.out]; rfl, _, Hm6.out⟩
        · have R := Lib.hid (HNk.out (fun q => e q.2))
          have q1 : ((z : Int) == (a : Int)) = false := by rw [beq_eq_false_iff_ne]; omega
          clear hb e
          go_wp2_with fail
          refine HLk.out.mono ?_
          rintro e w6 ⟨rfl, m6, hm6⟩
          have Hm6 := Lib.hid (show w6 = w.drewN (m + m6) from by rw [hm6, Hw5.out, World.drewN_drewN])
          clear hm6
          go_wp2_with fail
          go_roundw
          case rel => exact ⟨k + 1, by go_num, by omega, ⟨_, Hm6.out⟩, R.out⟩
          case measure => simp [intOf]; omega
    · obtain rfl : k = 6 := by omega
      have R := Lib.hid (HBf.out Hno.out)
      go_wp2_with fail
      go_ret
      exact ⟨by rw [R.out]; rfl, m, rfl⟩
#print axioms reads_any
#print axioms lastBefore_any
end Go.Proofs.Ytpehbffkplmfjaa

/- Contract of the closure of edges. -/
import Derived.Test.YtpehbffkplmfjaaSnb
namespace Go.Proofs.Ytpehbffkplmfjaa
open Go.RowKit
/-- an edge under snapshots -/
def SnE (h : List NOp) (W F : Nat → Nat) (l : List Nat) (a c : Nat) : Prop := (W a &&& W c ≠ 0 ∧ lv h h.length (7 + a) < lv h h.length (7 + c)) ∨ rdB h W F l a c = true ∨ Mis h W F a c
instance (h : List NOp) (W F : Nat → Nat) (l : List Nat) (a c : Nat) : Decidable (SnE h W F l a c) := inferInstanceAs (Decidable (_ ∨ _ ∨ _))
theorem sn_tr {a w w' : World} {row : Option Nat} (h : a.grownBy w row) (k : w.grownBy w' row) : a.grownBy w' row :=
  ⟨k.os.trans h.os, k.tape.trans h.tape, k.output.trans h.output, Nat.le_trans h.size k.size, fun j hj hne => (k.block j (Nat.lt_of_lt_of_le hj h.size) hne).trans (h.block j hj hne)⟩
set_option maxRecDepth 100000 in
set_option maxHeartbeats 8000000 in
theorem edges1_any {w : World} {b ps pe eb : Nat} {h : List NOp} {W F : Nat → Nat} {l : List Nat} {v : Value} {f : Nat → Nat} (s : SnB w b h W F v) (hin : Ints w v (castN l)) (h7 : ∀ x, x ∈ l → x < 7) (hl : l.length ≤ 7)
    (hp : w.cell? ⟨ps, 0, none⟩ = some (.pointer (some ⟨b, 0, none⟩))) (he : w.cell? ⟨pe, 0, none⟩ = some (.pointer (some ⟨eb, 0, none⟩))) (hE : EdB w eb f) (hf : ∀ x, f x < 128)
    {x y : Nat} (hx : x < 7) (hy : y < 7) (hW : ∀ x, W x < 128) (hF : ∀ x, F x < 128) :
    Calls Try.prog 100 #[.int .i64 x, .int .i64 y, .pointer (some ⟨ps, 0, none⟩), .pointer (some ⟨pe, 0, none⟩)] w fun e w' => e = .returned (.tuple #[]) ∧ EdB w' eb (if SnE h W F l x y then fun j => if j = x then f x ||| 2 ^ y else f j else f) ∧ w.grownBy w' (some eb) := by
  have HR := Lib.hid (fun m B (hB : rdB h W F l x y = B) => reads_any (s.drewN m) (Ints.keep hin (bdrewN (Below.refl _ _) m)) h7 hW hF hl hy B hB)
  have HM := Lib.hid (fun m B (hB : decide (Mis h W F x y) = B) => misses_any (s.drewN m) hx hy (hF x) (hW y) B hB)
  have HA := Lib.hid (fun m => add_any (show EdB (w.drewN m) eb f from Blk.keep hE (bdrewN (Below.refl _ _) m)) hx hy (hf x))
  have hand := bits_and_nat (W x) (W y) (by have := hW x; omega) (by have := hW y; omega)
  have c1 := s.wr hx
  have c2 := s.wr hy
  have c3 := s.life (show 7 + x < 21 by omega)
  have c4 := s.life (show 7 + y < 21 by omega)
  obtain ⟨X, hX⟩ : ∃ X, X = decide (SnE h W F l x y) := ⟨_, rfl⟩
  obtain ⟨p, h1⟩ : ∃ p, p = W x := ⟨_, rfl⟩
  obtain ⟨g, h2⟩ : ∃ p, p = W y := ⟨_, rfl⟩
  obtain ⟨z, hz⟩ : ∃ z, z = p &&& g := ⟨_, rfl⟩
  obtain ⟨q1, hq1⟩ : ∃ q, q = lv h h.length (7 + x) := ⟨_, rfl⟩
  obtain ⟨q2, hq2⟩ : ∃ q, q = lv h h.length (7 + y) := ⟨_, rfl⟩
  rw [← h1] at c1
  rw [← h2] at c2
  rw [← hq1] at c3
  rw [← hq2] at c4
  rw [← h1, ← h2, ← hz] at hand
  obtain ⟨X0, hX0⟩ : ∃ X0, X0 = decide (z ≠ 0 ∧ q1 < q2) := ⟨_, rfl⟩
  have HXt := Lib.hid (show X0 = true → X = true from fun q => by
    rw [hX]; rw [hX0] at q
    have := of_decide_eq_true q
    exact decide_eq_true (.inl ⟨by rw [← h1, ← h2, ← hz]; exact this.1, by rw [← hq1, ← hq2]; exact this.2⟩))
  have HXf := Lib.hid (show X0 = false → X = (rdB h W F l x y || decide (Mis h W F x y)) from fun q => by
    rw [hX0] at q
    have hn := of_decide_eq_false q
    rw [hX, Bool.eq_iff_iff, decide_eq_true_eq, Bool.or_eq_true, decide_eq_true_eq]
    unfold SnE
    rw [← h1, ← h2, ← hz, ← hq1, ← hq2]
    exact ⟨fun r => r.resolve_left hn, fun r => .inr r⟩)
  have HXe := Lib.hid (show ∀ A B : Nat → Nat, (if SnE h W F l x y then A else B) = if X = true then A else B from fun A B => by
    by_cases q : SnE h W F l x y
    · rw [if_pos q, if_pos (by rw [hX]; exact decide_eq_true q)]
    · rw [if_neg q, if_neg (by rw [hX]; simpa using q)])
  rw [HXe.out]
  have Hp := Lib.hid hp
  have He := Lib.hid he
  have HE := Lib.hid hE
  have HX0 := Lib.hid hX0
  have hxa : (x : Int) < 7 := by omega
  have hxb : (0 : Int) ≤ (x : Int) := by omega
  have hya : (y : Int) < 7 := by omega
  have hyb : (0 : Int) ≤ (y : Int) := by omega
  clear s hin h7 hl hE hf hW hF h1 h2 hz hq1 hq2 hX hX0 hx hy HXe
  go_enter Try.func100, Try.ntmps100
  go_upto_region 0 with fail
  go_cut [6] from 7 to 37 (fun o wx => o = .bool X0 ∧ ∃ m, wx = w.drewN m)
  case first =>
    by_cases e1 : z = 0
    · have d1 : ((z : Int) != 0) = false := by rw [bne_eq_false_iff_eq]; omega
      have R := Lib.hid (show X0 = false from by rw [HX0.out]; exact decide_eq_false (fun q => q.1 e1))
      clear e1
      go_quiet (fail)
      go_wp2_with fail
      go_meet
      exact ⟨by rw [R.out], nq, rfl⟩
    · have d1 : ((z : Int) != 0) = true := by rw [bne_iff_ne]; omega
      obtain ⟨D, hD⟩ : ∃ D, D = decide (q1 < q2) := ⟨_, rfl⟩
      have d2 : decide ((q1 : Int) < (q2 : Int)) = D := by rw [hD]; exact decide_eq_decide.2 (by omega)
      have d2' : decide (q1 < q2) = D := hD.symm
      have R := Lib.hid (show X0 = D from by rw [HX0.out, hD]; exact decide_eq_decide.2 ⟨fun q => q.2, fun q => ⟨e1, q⟩⟩)
      clear e1 hD
      go_quiet (fail)
      go_wp2_with fail
      go_meet
      exact ⟨by rw [R.out], nq, rfl⟩
  case rest =>
    obtain ⟨rfl, m, rfl⟩ := hcut
    obtain ⟨w5, hw5⟩ : ∃ w5, w5 = w.drewN m := ⟨_, rfl⟩
    have Hw5 := Lib.hid hw5
    have hp5 : w5.cell? ⟨ps, 0, none⟩ = some (.pointer (some ⟨b, 0, none⟩)) := by rw [hw5]; exact Hp.out
    have HR5 := Lib.hid (fun B hB => HR.out m B hB)
    rw [← hw5] at HR5 ⊢
    clear c1 c2 c3 c4 hp he hand hw5
    go_upto_region 1 with fail
    go_cut [50] from 38 to 50 (fun o wx => o = .bool X ∧ ∃ m, wx = w.drewN m)
    case first =>
      cases X0 with
      | true =>
        have R := Lib.hid (HXt.out rfl)
        go_wp2_with fail
        go_meet
        exact ⟨by rw [R.out], m, Hw5.out⟩
      | false =>
        have RX := Lib.hid (HXf.out rfl)
        cases hr : rdB h W F l x y with
        | true =>
          have R := Lib.hid (show X = true from by rw [RX.out, hr]; rfl)
          have HC := Lib.hid (HR5.out true hr)
          clear hr
          go_wp2_with fail
          refine HC.out.mono ?_
          rintro e w6 ⟨rfl, m6, hm6⟩
          have Hm6 := Lib.hid (show w6 = w.drewN (m + m6) from by rw [hm6, Hw5.out, World.drewN_drewN])
          clear hm6
          go_wp2_with fail
          go_meet
          exact ⟨by rw [R.out], _, Hm6.out⟩
        | false =>
          obtain ⟨D, hD⟩ : ∃ D, D = decide (Mis h W F x y) := ⟨_, rfl⟩
          have R := Lib.hid (show X = D from by rw [RX.out, hr, hD]; rfl)
          have HC := Lib.hid (HR5.out false hr)
          have HMD := Lib.hid (fun m => HM.out m D hD.symm)
          clear hr hD
          go_wp2_with fail
          refine HC.out.mono ?_
          rintro e w6 ⟨rfl, m6, hm6⟩
          have hm7 : w6 = w.drewN (m + m6) := by rw [hm6, Hw5.out, World.drewN_drewN]
          have hp6 : w6.cell? ⟨ps, 0, none⟩ = some (.pointer (some ⟨b, 0, none⟩)) := by rw [hm7]; exact Hp.out
          have HC2 := Lib.hid (HMD.out (m + m6))
          rw [← hm7] at HC2
          have Hm7 := Lib.hid hm7
          clear hm6 hm7
          go_wp2_with fail
          refine HC2.out.mono ?_
          rintro e w7 ⟨rfl, m8, hm8⟩
          have Hm8 := Lib.hid (show w7 = w.drewN (m + m6 + m8) from by rw [hm8, Hm7.out, World.drewN_drewN])
          clear hm8
          go_wp2_with fail
          go_meet
          exact ⟨by rw [R.out], _, Hm8.out⟩
    case rest =>
      obtain ⟨rfl, m9, hm9⟩ := hcut
      have he9 : wc.cell? ⟨pe, 0, none⟩ = some (.pointer (some ⟨eb, 0, none⟩)) := by rw [hm9]; exact He.out
      have hE9 : EdB wc eb f := by rw [hm9]; exact HE.out
      have hg9 : w.grownBy wc (some eb) := by rw [hm9]; exact ⟨rfl, rfl, rfl, Nat.le_refl _, fun _ _ _ => rfl⟩
      have HA9 := Lib.hid (HA.out m9)
      rw [← hm9] at HA9
      have HE9 := Lib.hid hE9
      have Hg9 := Lib.hid hg9
      clear hm9 hE9 hg9
      cases X with
      | true =>
        go_wp2_with fail
        refine HA9.out.mono ?_
        rintro e w7 ⟨rfl, hE7, hg7⟩
        have HE7 := Lib.hid hE7
        have Hg7 := Lib.hid (sn_tr Hg9.out hg7)
        clear hE7 hg7
        go_wp2_with fail
        go_end0
        exact ⟨rfl, HE7.out, Hg7.out⟩
      | false =>
        go_wp2_with fail
        go_end0
        exact ⟨rfl, HE9.out, Hg9.out⟩
theorem ent100 (c1 c2 : Value) (x y : Int) (w : World) : (callFunc 100 #[.int .i64 x, .int .i64 y, c1, c2]).run Try.prog w = .ok (.enter 100 #[.int .i64 x, .int .i64 y, c1, c2]) w := by
  kernel_rfl
#print axioms edges1_any
end Go.Proofs.Ytpehbffkplmfjaa

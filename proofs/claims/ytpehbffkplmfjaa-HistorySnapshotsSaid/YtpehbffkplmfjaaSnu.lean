/- The reference's Allowed. -/
import Derived.Test.YtpehbffkplmfjaaSnk
import Derived.Test.YtpehbffkplmfjaaCmr
import Derived.Test.YtpehbffkplmfjaaCfr
namespace Go.Proofs.Ytpehbffkplmfjaa
open Go.RowKit
/-- what a walk takes of a row of its own -/
theorem own_get {base : Nat} {w : World} {v : Value} {l : List Nat} (h : OwnInts base w v (castN l)) : ∃ a b off cap, v = .slice a l.length cap ∧ (0 < l.length → a = some ⟨b, off, none⟩) ∧
    (∀ i, i < l.length → w.cell? ⟨b, off + i, none⟩ = some (.int .i64 (l.getD i 0 : Nat))) ∧ (0 < l.length → base ≤ b) := by
  obtain ⟨a, b, off, cap, h1, _, h3, h4⟩ := IntsN.get h.ints
  refine ⟨a, b, off, cap, h1, h3, h4, fun hl => ?_⟩
  have h5 := h3 hl
  subst h5
  rcases h.2 with ⟨e, h0⟩ | ⟨g, cap', cur, e, hg, _⟩
  · rw [castN_length] at h0; omega
  · rw [h1] at e
    injection e with e1 _ _
    injection e1 with e1
    injection e1 with e1
    omega
/-- triples that come before (i, j, x) -/
def Bf (i j x i' j' x' : Nat) : Prop := i' < i ∨ i' = i ∧ (j' < j ∨ j' = j ∧ x' < x)
/-- no triple before (i, j, x) has P -/
def NoB (n m : Nat) (P : Nat → Nat → Nat → Prop) (i j x : Nat) : Prop := ∀ i' j' x', i' < n → j' < n → x' < m → Bf i j x i' j' x' → ¬ P i' j' x'
theorem noB_0 {n m : Nat} {P : Nat → Nat → Nat → Prop} : NoB n m P 0 0 0 := fun i' j' x' _ _ _ h => by unfold Bf at h; omega
theorem noB_step {n m : Nat} {P : Nat → Nat → Nat → Prop} {i j x : Nat} (h : NoB n m P i j x) (hn : ¬ P i j x) : NoB n m P i j (x + 1) := fun i' j' x' h1 h2 h3 h4 => by
  by_cases e : i' = i ∧ j' = j ∧ x' = x
  · obtain ⟨rfl, rfl, rfl⟩ := e; exact hn
  · exact h i' j' x' h1 h2 h3 (by unfold Bf at h4 ⊢; omega)
theorem noB_j {n m : Nat} {P : Nat → Nat → Nat → Prop} {i j : Nat} (h : NoB n m P i j m) : NoB n m P i (j + 1) 0 := fun i' j' x' h1 h2 h3 h4 => h i' j' x' h1 h2 h3 (by unfold Bf at h4 ⊢; omega)
theorem noB_i {n m : Nat} {P : Nat → Nat → Nat → Prop} {i : Nat} (h : NoB n m P i n 0) : NoB n m P (i + 1) 0 0 := fun i' j' x' h1 h2 h3 h4 => h i' j' x' h1 h2 h3 (by unfold Bf at h4 ⊢; omega)
/-- two transactions that overlap write item x -/
def AP (h : List NOp) (a c x : Nat) : Prop := a ≠ c ∧ Ovl h a c ∧ WrP h a x ∧ WrP h c x
theorem allP_ap {h : List NOp} (hh : VH h) : AllP h ↔ NoB (comN h 7).length 6 (fun i j x => AP h ((comN h 7).getD i 0) ((comN h 7).getD j 0) x) (comN h 7).length 0 0 := by
  constructor
  · intro q i j x hi hj hx _ hP
    exact q _ (getD_mem hi) _ (getD_mem hj) hP.1 ((bad_iff hh).2 ⟨hP.2.1, x, hx, hP.2.2⟩)
  · intro q a ha c hc hne hb
    obtain ⟨i, hi, rfl⟩ := mem_getD.2 ha
    obtain ⟨j, hj, rfl⟩ := mem_getD.2 hc
    obtain ⟨h1, x, hx, h2⟩ := (bad_iff hh).1 hb
    exact q i j x hi hj hx (.inl hi) ⟨hne, h1, h2⟩
theorem ap_no {h : List NOp} (hh : VH h) {i j x : Nat} (hi : i < (comN h 7).length) (hj : j < (comN h 7).length) (hx : x < 6) (hP : AP h ((comN h 7).getD i 0) ((comN h 7).getD j 0) x) : ¬ AllP h := fun q => (allP_ap hh).1 q i j x hi hj hx (.inl hi) hP
set_option maxRecDepth 100000 in
set_option maxHeartbeats 8000000 in
theorem allowedR_any {h : List NOp} (hh : VH h) (v : Value) (w : World) (hv : Ops w v (castO h)) :
    Calls Try.prog 37 #[v] w fun e w' => ∃ B : Bool, e = .returned (.bool B) ∧ (B = true ↔ AllP h) ∧ Below w.heap.size w w' := by
  have HC := Lib.hid (fun (w' : World) (hb : Below w.heap.size w w') => committedR_any hh v w' (Ops.keep hv hb))
  have HO := Lib.hid (fun (a c : Nat) (ma : a ∈ comN h 7) (mc : c ∈ comN h 7) (w' : World) (hb : Below w.heap.size w w') => overlapR_any hh (mem_comS.1 ma).1 (mem_comS.1 mc).1 (mem_comS.1 ma).2 (mem_comS.1 mc).2 _ rfl v w' (Ops.keep hv hb))
  have HW := Lib.hid (fun (t x : Nat) (w' : World) (hb : Below w.heap.size w w') => writesR_any hh t x v w' (Ops.keep hv hb))
  have HY := Lib.hid (fun q => (allP_ap hh).2 q)
  have HN := Lib.hid (fun i j x hi hj hx q => ap_no hh (i := i) (j := j) (x := x) hi hj hx q)
  have Hm := Lib.hid (fun k (hk : k < (comN h 7).length) => getD_mem hk)
  have hl7 := comN_le h 7
  obtain ⟨l, hl⟩ : ∃ l, l = comN h 7 := ⟨_, rfl⟩
  rw [← hl] at HC HO HY HN Hm hl7
  obtain ⟨a0, c0, rfl⟩ := ops_slice hv
  clear hv hh hl
  go_enter Try.func37, Try.ntmps37
  go_wp2_with fail
  refine (HC.out w (Below.refl _ _)).mono ?_
  rintro e w1 ⟨v1, rfl, ho1, hb1⟩
  obtain ⟨A1, b1, f1, c1, rfl, ha1, hc1, _⟩ := own_get ho1
  have Hix1 := Lib.hid (run_ix (P := Try.prog) (t := 24) (a := A1) (len := l.length) (cap := c1) (b := b1) (off := f1) (s := 1) Try.underlying24 (by intro w; kernel_rfl) ha1)
  simp only [Nat.mul_one] at Hix1
  have Hc1 := Lib.hid hc1
  have Hb1 := Lib.hid hb1
  clear ho1 ha1 hc1 hb1
  go_wp2_with fail
  go_loopw [11] (fun vi wr => ∃ i : Nat, vi = .int .i64 i ∧ i ≤ l.length ∧ Below w.heap.size w wr ∧ Below w1.heap.size w1 wr ∧ NoB l.length 6 (fun i j x => AP h (l.getD i 0) (l.getD j 0) x) i 0 0) (fun vi _ => l.length - (intOf vi).toNat)
  case atStart => exact ⟨0, rfl, Nat.zero_le _, Hb1.out, Below.refl _ _, noB_0⟩
  case round =>
    obtain ⟨i, rfl, hi, hb, hg, hno⟩ := hrel
    obtain ⟨wA, hwA⟩ : ∃ wA : World, wA = wr := ⟨_, rfl⟩
    subst hwA
    have Hb := Lib.hid hb
    have Hg := Lib.hid hg
    have Hno := Lib.hid hno
    clear hb hg hno
    by_cases hil : i < l.length
    · have hixi := Hix1.out i
      have hci := Below.keep Hg.out (Hc1.out i hil)
      have ma := Lib.hid (Hm.out i hil)
      obtain ⟨a, ha⟩ : ∃ a, a = l.getD i 0 := ⟨_, rfl⟩
      rw [← ha] at hci ma
      have HaL := Lib.hid ha
      clear ha
      go_wp2_with fail
      refine (HC.out wA Hb.out).mono ?_
      rintro e w2 ⟨v2, rfl, ho2, hb2⟩
      obtain ⟨A2, b2, f2, c2, rfl, ha2, hc2, _⟩ := own_get ho2
      have Hix2 := Lib.hid (run_ix (P := Try.prog) (t := 24) (a := A2) (len := l.length) (cap := c2) (b := b2) (off := f2) (s := 1) Try.underlying24 (by intro w; kernel_rfl) ha2)
      simp only [Nat.mul_one] at Hix2
      have Hc2 := Lib.hid hc2
      have Hb2 := Lib.hid (Below.tr Hb.out hb2)
      have Hg2 := Lib.hid (Below.tr Hg.out hb2)
      clear ho2 ha2 hc2 hb2 hci hixi
      go_wp2_with fail
      go_loopw [18] (fun vj wr => ∃ j : Nat, vj = .int .i64 j ∧ j ≤ l.length ∧ Below w2.heap.size w2 wr ∧ NoB l.length 6 (fun i j x => AP h (l.getD i 0) (l.getD j 0) x) i j 0) (fun vj _ => l.length - (intOf vj).toNat)
      case atStart => exact ⟨0, rfl, Nat.zero_le _, Below.refl _ _, Hno.out⟩
      case round =>
        obtain ⟨j, rfl, hj, hg, hno⟩ := hrel
        obtain ⟨wB, hwB⟩ : ∃ wB : World, wB = wr := ⟨_, rfl⟩
        subst hwB
        have HgB := Lib.hid hg
        have HnoB := Lib.hid hno
        clear hg hno
        by_cases hjl : j < l.length
        · have hixj := Hix2.out j
          have hcj := Below.keep HgB.out (Hc2.out j hjl)
          have mb := Lib.hid (Hm.out j hjl)
          have HNx := Lib.hid (fun x hx q => HN.out i j x hil hjl hx q)
          have HnoB' := Lib.hid (show NoB l.length 6 (fun i j x => AP h (l.getD i 0) (l.getD j 0) x) i j 0 from HnoB.out)
          have HP := Lib.hid (show ∀ x, (fun i j x => AP h (l.getD i 0) (l.getD j 0) x) i j x ↔ AP h (l.getD i 0) (l.getD j 0) x from fun x => Iff.rfl)
          obtain ⟨c, hc⟩ : ∃ c, c = l.getD j 0 := ⟨_, rfl⟩
          rw [← HaL.out, ← hc] at HNx HP
          rw [← hc] at hcj mb
          have HOx := Lib.hid (fun w' hb => HO.out a c ma.out mb.out w' hb)
          clear hc mb
          go_wp2_with fail
          clear hcj hixj
          go_loopw [22] (fun vx wr => ∃ x : Nat, vx = .int .i64 x ∧ x ≤ 6 ∧ Below w2.heap.size w2 wr ∧ NoB l.length 6 (fun i j x => AP h (l.getD i 0) (l.getD j 0) x) i j x) (fun vx _ => 6 - (intOf vx).toNat)
          case atStart => exact ⟨0, rfl, Nat.zero_le _, HgB.out, HnoB'.out⟩
          case round =>
            obtain ⟨x, rfl, hx, hg, hno⟩ := hrel
            have HgC := Lib.hid hg
            have HnoC := Lib.hid hno
            have Hbx := Lib.hid (Below.tr Hb2.out hg)
            clear hg hno
            by_cases hx6 : x < 6
            · have HS := Lib.hid (fun (q : ¬ AP h a c x) => noB_step HnoC.out (fun r => q ((HP.out x).1 r)))
              by_cases e1 : a = c
              · have q1 : ((a : Int) != (c : Int)) = false := by rw [bne_eq_false_iff_eq]; omega
                have R := Lib.hid (HS.out fun r => r.1 e1)
                clear e1
                go_wp2_with fail
                go_roundw
                case rel => exact ⟨x + 1, by go_num, by omega, HgC.out, R.out⟩
                case measure => simp [intOf]; omega
              · have q1 : ((a : Int) != (c : Int)) = true := by rw [bne_iff_ne]; omega
                have Hne := Lib.hid e1
                clear e1
                go_wp2_with fail
                refine (HOx.out _ Hbx.out).mono ?_
                rintro e w3 ⟨rfl, hb3⟩
                have Hg3 := Lib.hid (Below.tr HgC.out hb3)
                have Hb3 := Lib.hid (Below.tr Hbx.out hb3)
                clear hb3
                by_cases e2 : Ovl h a c
                · have q2 : decide (Ovl h a c) = true := decide_eq_true e2
                  have He2 := Lib.hid e2
                  clear e2
                  go_wp2_with fail
                  refine (HW.out a x _ Hb3.out).mono ?_
                  rintro e w4 ⟨B1, rfl, hB1, hb4⟩
                  have Hg4 := Lib.hid (Below.tr Hg3.out hb4)
                  have Hb4 := Lib.hid (Below.tr Hb3.out hb4)
                  have HB1 := Lib.hid hB1
                  clear hb4 hB1
                  cases B1 with
                  | false =>
                    have R := Lib.hid (HS.out fun r => by have := HB1.out.2 r.2.2.1; cases this)
                    go_wp2_with fail
                    go_roundw
                    case rel => exact ⟨x + 1, by go_num, by omega, Hg4.out, R.out⟩
                    case measure => simp [intOf]; omega
                  | true =>
                    have HB1t := Lib.hid (HB1.out.1 rfl)
                    go_wp2_with fail
                    refine (HW.out c x _ Hb4.out).mono ?_
                    rintro e w5 ⟨B2, rfl, hB2, hb5⟩
                    have Hg5 := Lib.hid (Below.tr Hg4.out hb5)
                    have Hb5 := Lib.hid (Below.tr Hb4.out hb5)
                    have HB2 := Lib.hid hB2
                    clear hb5 hB2
                    cases B2 with
                    | false =>
                      have R := Lib.hid (HS.out fun r => by have := HB2.out.2 r.2.2.2; cases this)
                      go_wp2_with fail
                      go_roundw
                      case rel => exact ⟨x + 1, by go_num, by omega, Hg5.out, R.out⟩
                      case measure => simp [intOf]; omega
                    | true =>
                      have R := Lib.hid (HNx.out x hx6 ⟨Hne.out, He2.out, HB1t.out, HB2.out.1 rfl⟩)
                      go_wp2_with fail
                      go_ret
                      exact ⟨false, rfl, ⟨fun r => (by cases r), fun r => absurd r R.out⟩, Hb5.out⟩
                · have q2 : decide (Ovl h a c) = false := decide_eq_false e2
                  have R := Lib.hid (HS.out fun r => e2 r.2.1)
                  clear e2
                  go_wp2_with fail
                  go_roundw
                  case rel => exact ⟨x + 1, by go_num, by omega, Hg3.out, R.out⟩
                  case measure => simp [intOf]; omega
            · obtain rfl : x = 6 := by omega
              have R := Lib.hid (noB_j HnoC.out)
              go_wp2_with fail
              go_roundw
              case rel => exact ⟨j + 1, by go_num, by omega, HgC.out, R.out⟩
              case measure => simp [intOf]; omega
        · obtain rfl : j = l.length := by omega
          have R := Lib.hid (noB_i HnoB.out)
          go_wp2_with fail
          go_roundw
          case rel => exact ⟨i + 1, by go_num, by omega, Below.tr Hb2.out HgB.out, (Below.tr Hg2.out HgB.out), R.out⟩
          case measure => simp [intOf]; omega
    · obtain rfl : i = l.length := by omega
      have R := Lib.hid (HY.out Hno.out)
      go_wp2_with fail
      go_ret
      exact ⟨true, rfl, ⟨fun _ => R.out, fun _ => rfl⟩, Hb.out⟩
#print axioms allowedR_any
end Go.Proofs.Ytpehbffkplmfjaa

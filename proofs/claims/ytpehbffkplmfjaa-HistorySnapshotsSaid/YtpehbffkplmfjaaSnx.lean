/- The reference's anti: the a-edges as a table. -/
import Derived.Test.YtpehbffkplmfjaaSnu
import Derived.Test.YtpehbffkplmfjaaFir
namespace Go.Proofs.Ytpehbffkplmfjaa
open Go.RowKit
/-- a table holds just the triples with P before (i, j, x) -/
def MB (l : List Nat) (m : Nat) (P : Nat → Nat → Nat → Prop) (i j x : Nat) (E : Nat → Nat → Bool) : Prop := ∀ a c, E a c = true ↔ ∃ i' j' x', i' < l.length ∧ j' < l.length ∧ x' < m ∧ Bf i j x i' j' x' ∧ a = l.getD i' 0 ∧ c = l.getD j' 0 ∧ P a c x'
theorem mb_0 {l : List Nat} {m : Nat} {P : Nat → Nat → Nat → Prop} : MB l m P 0 0 0 fun _ _ => false := fun a c => ⟨fun e => (by cases e), fun ⟨i', j', x', _, _, _, h, _⟩ => by unfold Bf at h; omega⟩
theorem mb_no {l : List Nat} {m : Nat} {P : Nat → Nat → Nat → Prop} {i j x : Nat} {E : Nat → Nat → Bool} (h : MB l m P i j x E) (hn : ¬ P (l.getD i 0) (l.getD j 0) x) : MB l m P i j (x + 1) E := fun a c => by
  rw [h a c]
  constructor
  · rintro ⟨i', j', x', h1, h2, h3, h4, h5⟩
    exact ⟨i', j', x', h1, h2, h3, by unfold Bf at h4 ⊢; omega, h5⟩
  · rintro ⟨i', j', x', h1, h2, h3, h4, h5, h6, h7⟩
    refine ⟨i', j', x', h1, h2, h3, ?_, h5, h6, h7⟩
    by_cases e : i' = i ∧ j' = j ∧ x' = x
    · obtain ⟨rfl, rfl, rfl⟩ := e
      rw [h5, h6] at h7; exact absurd h7 hn
    · unfold Bf at h4 ⊢; omega
theorem mb_yes {l : List Nat} {m : Nat} {P : Nat → Nat → Nat → Prop} {i j x : Nat} {E : Nat → Nat → Bool} (h : MB l m P i j x E) (hi : i < l.length) (hj : j < l.length) (hx : x < m) (hP : P (l.getD i 0) (l.getD j 0) x) : MB l m P i j (x + 1) (fun a c => if a = l.getD i 0 ∧ c = l.getD j 0 then true else E a c) := fun a c => by
  show (if a = l.getD i 0 ∧ c = l.getD j 0 then true else E a c) = true ↔ _
  by_cases e : a = l.getD i 0 ∧ c = l.getD j 0
  · rw [if_pos e]
    obtain ⟨rfl, rfl⟩ := e
    exact ⟨fun _ => ⟨i, j, x, hi, hj, hx, by unfold Bf; omega, rfl, rfl, hP⟩, fun _ => rfl⟩
  · rw [if_neg e, h a c]
    constructor
    · rintro ⟨i', j', x', h1, h2, h3, h4, h5⟩
      exact ⟨i', j', x', h1, h2, h3, by unfold Bf at h4 ⊢; omega, h5⟩
    · rintro ⟨i', j', x', h1, h2, h3, h4, h5, h6, h7⟩
      refine ⟨i', j', x', h1, h2, h3, ?_, h5, h6, h7⟩
      by_cases q : i' = i ∧ j' = j ∧ x' = x
      · obtain ⟨rfl, rfl, rfl⟩ := q
        exact absurd ⟨h5, h6⟩ e
      · unfold Bf at h4 ⊢; omega
theorem mb_to {l : List Nat} {m : Nat} {P : Nat → Nat → Nat → Prop} {i j x i2 j2 x2 : Nat} {E : Nat → Nat → Bool} (h : MB l m P i j x E) (hb : ∀ i' j' x', i' < l.length → j' < l.length → x' < m → (Bf i j x i' j' x' ↔ Bf i2 j2 x2 i' j' x')) : MB l m P i2 j2 x2 E := fun a c => by
  rw [h a c]
  constructor
  · rintro ⟨i', j', x', h1, h2, h3, h4, h5⟩
    exact ⟨i', j', x', h1, h2, h3, (hb _ _ _ h1 h2 h3).1 h4, h5⟩
  · rintro ⟨i', j', x', h1, h2, h3, h4, h5⟩
    exact ⟨i', j', x', h1, h2, h3, (hb _ _ _ h1 h2 h3).2 h4, h5⟩
theorem mb_j {l : List Nat} {m : Nat} {P : Nat → Nat → Nat → Prop} {i j : Nat} {E : Nat → Nat → Bool} (h : MB l m P i j m E) : MB l m P i (j + 1) 0 E := mb_to h fun i' j' x' _ _ _ => by unfold Bf; omega
theorem mb_i {l : List Nat} {m : Nat} {P : Nat → Nat → Nat → Prop} {i : Nat} {E : Nat → Nat → Bool} (h : MB l m P i l.length 0 E) : MB l m P (i + 1) 0 0 E := mb_to h fun i' j' x' _ _ _ => by unfold Bf; omega
/-- a reads item x, but not what c wrote there -/
def AX (h : List NOp) (a c x : Nat) : Prop := a ≠ c ∧ RdP h a x ∧ WrP h c x ∧ lv h h.length a < lv h h.length (7 + c)
def antiF (h : List NOp) (a c : Nat) : Bool := decide ((a ∈ comN h 7 ∧ c ∈ comN h 7) ∧ An h a c)
theorem anti_end {h : List NOp} (hh : VH h) {E : Nat → Nat → Bool} (q : MB (comN h 7) 6 (AX h) (comN h 7).length 0 0 E) : E = antiF h := by
  funext a c
  rw [Bool.eq_iff_iff, q a c]
  unfold antiF An
  rw [decide_eq_true_eq, mis_iff hh]
  constructor
  · rintro ⟨i, j, x, hi, hj, hx, _, rfl, rfl, h1, h2, h3, h4⟩
    exact ⟨⟨getD_mem hi, getD_mem hj⟩, h1, x, hx, h2, h3, h4⟩
  · rintro ⟨⟨h1, h2⟩, h3, x, hx, h4, h5, h6⟩
    obtain ⟨i, hi, rfl⟩ := mem_getD.2 h1
    obtain ⟨j, hj, rfl⟩ := mem_getD.2 h2
    exact ⟨i, j, x, hi, hj, hx, .inl hi, rfl, rfl, h3, h4, h5, h6⟩
theorem grown_blk {w w' : World} {b b2 n : Nat} {t : TypeId} {f : Nat → Value} (h : Blk w b t n f) (hg : w.grownBy w' (some b2)) (hne : b ≠ b2) : Blk w' b t n f :=
  (hg.block b h.lt (by simp; omega)).trans h
theorem below_grown {w w' : World} {row : Option Nat} (hb : Below w.heap.size w w') : w.grownBy w' row := ⟨hb.os, hb.tape, hb.output, hb.size, fun k hk _ => hb.block k hk⟩
theorem put_grown (w : World) (b i : Nat) (u : Value) : w.grownBy (w.setCell ⟨b, i, none⟩ u) (some b) := ⟨rfl, rfl, rfl, by simp, fun k _ hne => heap_setCell_other w ⟨b, i, none⟩ k u (fun e => hne (by rw [e]))⟩
/-- what the walk of a table keeps -/
structure Tb (w w2 wr : World) (E : Nat → Nat → Bool) : Prop where
  b : Below w.heap.size w wr
  g : w2.grownBy wr (some (w.heap.size + 1))
  v : MatB wr w.heap.size fun _ _ => false
  e : MatB wr (w.heap.size + 1) E
theorem Tb.keep {w w2 wr w' : World} {E : Nat → Nat → Bool} (h : Tb w w2 wr E) (hb : Below wr.heap.size wr w') : Tb w w2 w' E := ⟨Below.tr h.b hb, sn_tr h.g (below_grown hb), Blk.keep h.v hb, Blk.keep h.e hb⟩
theorem Tb.put {w w2 wr : World} {E : Nat → Nat → Bool} (h : Tb w w2 wr E) {s t : Nat} (ht : t < 7) : Tb w w2 (wr.setCell ⟨w.heap.size + 1, s * 7 + t, none⟩ (.bool true)) (fun x y => if x = s ∧ y = t then true else E x y) :=
  ⟨h.b.setCell (by simp) _, sn_tr h.g (put_grown _ _ _ _), Blk.other h.v (by omega) _, MatB.put h.e ht⟩
set_option maxRecDepth 100000 in
set_option maxHeartbeats 8000000 in
theorem anti_any {h : List NOp} (hh : VH h) (v : Value) (w : World) (hv : Ops w v (castO h)) :
    Calls Try.prog 74 #[v] w fun e w' => e = .returned (.agg (mat (antiF h))) ∧ Below w.heap.size w w' := by
  obtain ⟨w1, hw1⟩ : ∃ w1, w1 = (w.alloc (.cells #[.bool false, .bool false, .bool false, .bool false, .bool false, .bool false, .bool false, .bool false, .bool false, .bool false, .bool false, .bool false, .bool false, .bool false, .bool false, .bool false, .bool false, .bool false, .bool false, .bool false, .bool false, .bool false, .bool false, .bool false, .bool false, .bool false, .bool false, .bool false, .bool false, .bool false, .bool false, .bool false, .bool false, .bool false, .bool false, .bool false, .bool false, .bool false, .bool false, .bool false, .bool false, .bool false, .bool false, .bool false, .bool false, .bool false, .bool false, .bool false, .bool false] 80)).alloc (.cells #[.bool false, .bool false, .bool false, .bool false, .bool false, .bool false, .bool false, .bool false, .bool false, .bool false, .bool false, .bool false, .bool false, .bool false, .bool false, .bool false, .bool false, .bool false, .bool false, .bool false, .bool false, .bool false, .bool false, .bool false, .bool false, .bool false, .bool false, .bool false, .bool false, .bool false, .bool false, .bool false, .bool false, .bool false, .bool false, .bool false, .bool false, .bool false, .bool false, .bool false, .bool false, .bool false, .bool false, .bool false, .bool false, .bool false, .bool false, .bool false, .bool false] 80) := ⟨_, rfl⟩
  have hb0 : Below w.heap.size w w1 := by rw [hw1]; exact ((Below.refl _ _).alloc (Nat.le_refl _) _).alloc (by simp) _
  have hB1 : MatB w1 w.heap.size fun _ _ => false := by rw [hw1]; exact Blk.keep (blk_new w 80 49 fun _ => .bool false) (below_alloc _ _)
  have hB2 : MatB w1 (w.heap.size + 1) fun _ _ => false := by
    have := blk_new (w.alloc (.cells #[.bool false, .bool false, .bool false, .bool false, .bool false, .bool false, .bool false, .bool false, .bool false, .bool false, .bool false, .bool false, .bool false, .bool false, .bool false, .bool false, .bool false, .bool false, .bool false, .bool false, .bool false, .bool false, .bool false, .bool false, .bool false, .bool false, .bool false, .bool false, .bool false, .bool false, .bool false, .bool false, .bool false, .bool false, .bool false, .bool false, .bool false, .bool false, .bool false, .bool false, .bool false, .bool false, .bool false, .bool false, .bool false, .bool false, .bool false, .bool false, .bool false] 80)) 80 49 (fun _ => .bool false)
    rw [show (w.alloc (.cells #[.bool false, .bool false, .bool false, .bool false, .bool false, .bool false, .bool false, .bool false, .bool false, .bool false, .bool false, .bool false, .bool false, .bool false, .bool false, .bool false, .bool false, .bool false, .bool false, .bool false, .bool false, .bool false, .bool false, .bool false, .bool false, .bool false, .bool false, .bool false, .bool false, .bool false, .bool false, .bool false, .bool false, .bool false, .bool false, .bool false, .bool false, .bool false, .bool false, .bool false, .bool false, .bool false, .bool false, .bool false, .bool false, .bool false, .bool false, .bool false, .bool false] 80)).heap.size = w.heap.size + 1 by simp] at this; rw [hw1]; exact this
  have hsz : w1.heap.size = w.heap.size + 2 := by rw [hw1]; simp
  have HC := Lib.hid (fun (w' : World) (hb : Below w.heap.size w w') => committedR_any hh v w' (Ops.keep hv hb))
  have HE := Lib.hid (fun (a : Nat) (ma : a ∈ comN h 7) (w' : World) (hb : Below w.heap.size w w') => by
    have := end_any hh (q := 2) (by omega) a v w' (Ops.keep hv hb)
    rwa [endI_is (mem_comS.1 ma).1 (mem_comS.1 ma).2] at this)
  have HG := Lib.hid (fun (a : Nat) (ma : a ∈ comN h 7) (w' : World) (hb : Below w.heap.size w w') => by
    have := beginR_any hh (com_has hh (mem_comS.1 ma).1 (mem_comS.1 ma).2) v w' (Ops.keep hv hb)
    rwa [← lv_beg h (mem_comS.1 ma).1] at this)
  have HW := Lib.hid (fun (t x : Nat) (w' : World) (hb : Below w.heap.size w w') => writesR_any hh t x v w' (Ops.keep hv hb))
  have HR := Lib.hid (fun (t x : Nat) (w' : World) (hb : Below w.heap.size w w') => readsR_any hh t x v w' (Ops.keep hv hb))
  have HF := Lib.hid (fun E q => anti_end hh (E := E) q)
  have Hm := Lib.hid (fun k (hk : k < (comN h 7).length) => getD_mem hk)
  have H7 := Lib.hid (fun k (hk : k ∈ comN h 7) => (mem_comS.1 hk).1)
  have hl7 := comN_le h 7
  obtain ⟨l, hl⟩ : ∃ l, l = comN h 7 := ⟨_, rfl⟩
  rw [← hl] at HC HE HG HF Hm H7 hl7
  obtain ⟨a0, c0, rfl⟩ := ops_slice hv
  clear hv hh hl
  have Hw1 := Lib.hid hw1
  have Hb0 := Lib.hid hb0
  have HB1 := Lib.hid hB1
  have HB2 := Lib.hid hB2
  have Hsz := Lib.hid hsz
  clear hw1 hb0 hB1 hB2 hsz
  go_enter Try.func74, Try.ntmps74
  go_wp2_with fail
  rw [← Hw1.out]
  clear Hw1
  refine (HC.out w1 Hb0.out).mono ?_
  rintro e w2 ⟨v1, rfl, ho1, hb1⟩
  obtain ⟨A1, b1, f1, c1, rfl, ha1, hc1, hg1⟩ := own_get ho1
  have Hix1 := Lib.hid (run_ix (P := Try.prog) (t := 24) (a := A1) (len := l.length) (cap := c1) (b := b1) (off := f1) (s := 1) Try.underlying24 (by intro w; kernel_rfl) ha1)
  simp only [Nat.mul_one] at Hix1
  have Hc1 := Lib.hid hc1
  have Hg1 := Lib.hid (show 0 < l.length → b1 ≠ w.heap.size + 1 from fun q => by have := hg1 q; have := Hsz.out; omega)
  have HT := Lib.hid (show Tb w w2 w2 fun _ _ => false from ⟨Below.tr Hb0.out hb1, ⟨rfl, rfl, rfl, Nat.le_refl _, fun _ _ _ => rfl⟩, Blk.keep HB1.out hb1, Blk.keep HB2.out hb1⟩)
  clear ho1 ha1 hc1 hb1 hg1 Hb0 HB1 HB2
  go_wp2_with fail
  go_loopw [12] (fun vi wr => ∃ (i : Nat) (E : Nat → Nat → Bool), vi = .int .i64 i ∧ i ≤ l.length ∧ Tb w w2 wr E ∧ MB l 6 (AX h) i 0 0 E) (fun vi _ => l.length - (intOf vi).toNat)
  case atStart => exact ⟨0, _, rfl, Nat.zero_le _, HT.out, mb_0⟩
  case round =>
    clear HT
    obtain ⟨i, E, rfl, hi, hT, hM⟩ := hrel
    obtain ⟨wA, hwA⟩ : ∃ wA : World, wA = wr := ⟨_, rfl⟩
    subst hwA
    have HT := Lib.hid hT
    have HM := Lib.hid hM
    clear hT hM
    by_cases hil : i < l.length
    · have hixi := Hix1.out i
      have hci := grown_cell (Hc1.out i hil) HT.out.g (Hg1.out (by omega))
      have ma := Lib.hid (Hm.out i hil)
      obtain ⟨a, ha⟩ : ∃ a, a = l.getD i 0 := ⟨_, rfl⟩
      rw [← ha] at hci ma
      have HaL := Lib.hid ha
      clear ha
      go_wp2_with fail
      refine (HC.out wA HT.out.b).mono ?_
      rintro e w3 ⟨v2, rfl, ho2, hb2⟩
      obtain ⟨A2, b2, f2, c2, rfl, ha2, hc2, hg2⟩ := own_get ho2
      have Hix2 := Lib.hid (run_ix (P := Try.prog) (t := 24) (a := A2) (len := l.length) (cap := c2) (b := b2) (off := f2) (s := 1) Try.underlying24 (by intro w; kernel_rfl) ha2)
      simp only [Nat.mul_one] at Hix2
      have Hc2 := Lib.hid hc2
      have Hg2 := Lib.hid (show 0 < l.length → b2 ≠ w.heap.size + 1 from fun q => by have := hg2 q; have := Blk.lt HT.out.e; omega)
      have HT2 := Lib.hid (HT.out.keep hb2)
      clear ho2 ha2 hc2 hb2 hci hixi hg2
      go_wp2_with fail
      go_loopw [19] (fun vj wr => ∃ (j : Nat) (E : Nat → Nat → Bool), vj = .int .i64 j ∧ j ≤ l.length ∧ Tb w w2 wr E ∧ w3.grownBy wr (some (w.heap.size + 1)) ∧ MB l 6 (AX h) i j 0 E) (fun vj _ => l.length - (intOf vj).toNat)
      case atStart => exact ⟨0, _, rfl, Nat.zero_le _, HT2.out, ⟨rfl, rfl, rfl, Nat.le_refl _, fun _ _ _ => rfl⟩, HM.out⟩
      case round =>
        clear HT2 HM HT
        obtain ⟨j, E, rfl, hj, hT, hg, hM⟩ := hrel
        obtain ⟨wB, hwB⟩ : ∃ wB : World, wB = wr := ⟨_, rfl⟩
        subst hwB
        have HT := Lib.hid hT
        have HgB := Lib.hid hg
        have HM := Lib.hid hM
        clear hT hg hM
        by_cases hjl : j < l.length
        · have hixj := Hix2.out j
          have hcj := grown_cell (Hc2.out j hjl) HgB.out (Hg2.out (by omega))
          have mc := Lib.hid (Hm.out j hjl)
          have HN := Lib.hid (fun (x : Nat) (E : Nat → Nat → Bool) (q : MB l 6 (AX h) i j x E) => mb_no q)
          have HYs := Lib.hid (fun (x : Nat) (E : Nat → Nat → Bool) (q : MB l 6 (AX h) i j x E) => mb_yes q hil hjl)
          obtain ⟨c, hc⟩ : ∃ c, c = l.getD j 0 := ⟨_, rfl⟩
          rw [← HaL.out, ← hc] at HN HYs
          rw [← hc] at hcj mc
          have ha7 := H7.out a ma.out
          have hc7 := H7.out c mc.out
          clear hc
          go_wp2_with fail
          clear hcj hixj
          obtain ⟨wo, hwo⟩ : ∃ wo : World, wo = wB := ⟨_, rfl⟩
          clear hwo
          go_loopw [23] (fun vx wr => ∃ (x : Nat) (E : Nat → Nat → Bool), vx = .int .i64 x ∧ x ≤ 6 ∧ Tb w w2 wr E ∧ w3.grownBy wr (some (w.heap.size + 1)) ∧ MB l 6 (AX h) i j x E) (fun vx _ => 6 - (intOf vx).toNat)
          case atStart => exact ⟨0, _, rfl, Nat.zero_le _, HT.out, HgB.out, HM.out⟩
          case round =>
            clear HT HgB HM
            obtain ⟨x, E, rfl, hx, hT, hg, hM⟩ := hrel
            have HT := Lib.hid hT
            have HgC := Lib.hid hg
            have HM := Lib.hid hM
            clear hT hg hM
            by_cases hx6 : x < 6
            · have HS := Lib.hid (HN.out x E HM.out)
              have HY := Lib.hid (HYs.out x E HM.out hx6)
              by_cases e1 : a = c
              · have q1 : ((a : Int) != (c : Int)) = false := by rw [bne_eq_false_iff_eq]; omega
                have R := Lib.hid (HS.out fun r => r.1 e1)
                clear e1
                go_wp2_with fail
                go_roundw
                case rel => exact ⟨x + 1, _, by go_num, by omega, HT.out, HgC.out, R.out⟩
                case measure => simp [intOf]; omega
              · have q1 : ((a : Int) != (c : Int)) = true := by rw [bne_iff_ne]; omega
                have Hne := Lib.hid e1
                clear e1
                go_wp2_with fail
                refine (HR.out a x _ HT.out.b).mono ?_
                rintro e w4 ⟨B1, rfl, hB1, hb4⟩
                have HT4 := Lib.hid (HT.out.keep hb4)
                have Hg4 := Lib.hid (sn_tr HgC.out (below_grown hb4))
                have HB1 := Lib.hid hB1
                clear hb4 hB1
                cases B1 with
                | false =>
                  have R := Lib.hid (HS.out fun r => by have := HB1.out.2 r.2.1; cases this)
                  go_wp2_with fail
                  go_roundw
                  case rel => exact ⟨x + 1, _, by go_num, by omega, HT4.out, Hg4.out, R.out⟩
                  case measure => simp [intOf]; omega
                | true =>
                  have HB1t := Lib.hid (HB1.out.1 rfl)
                  go_wp2_with fail
                  refine (HW.out c x _ HT4.out.b).mono ?_
                  rintro e w5 ⟨B2, rfl, hB2, hb5⟩
                  have HT5 := Lib.hid (HT4.out.keep hb5)
                  have Hg5 := Lib.hid (sn_tr Hg4.out (below_grown hb5))
                  have HB2 := Lib.hid hB2
                  clear hb5 hB2
                  cases B2 with
                  | false =>
                    have R := Lib.hid (HS.out fun r => by have := HB2.out.2 r.2.2.1; cases this)
                    go_wp2_with fail
                    go_roundw
                    case rel => exact ⟨x + 1, _, by go_num, by omega, HT5.out, Hg5.out, R.out⟩
                    case measure => simp [intOf]; omega
                  | true =>
                    have HB2t := Lib.hid (HB2.out.1 rfl)
                    have HEc := Lib.hid (HE.out c mc.out _ HT5.out.b)
                    have HGa := Lib.hid (fun w' hb => HG.out a ma.out w' hb)
                    obtain ⟨p, hp⟩ : ∃ p, p = lv h h.length (7 + c) := ⟨_, rfl⟩
                    obtain ⟨q, hq⟩ : ∃ q, q = lv h h.length a := ⟨_, rfl⟩
                    rw [← hp] at HEc
                    rw [← hq] at HGa
                    have Hpq := Lib.hid (And.intro hp hq)
                    clear hp hq
                    go_wp2_with fail
                    refine HEc.out.mono ?_
                    rintro e w6 ⟨rfl, hb6⟩
                    have HT6 := Lib.hid (HT5.out.keep hb6)
                    have Hg6 := Lib.hid (sn_tr Hg5.out (below_grown hb6))
                    clear hb6
                    go_wp2_with fail
                    refine (HGa.out _ HT6.out.b).mono ?_
                    rintro e w7 ⟨rfl, rfl⟩
                    by_cases e3 : q < p
                    · have q3 : (p : Int) > (q : Int) := by omega
                      have R := Lib.hid (HY.out ⟨Hne.out, HB1t.out, HB2t.out, by rw [← Hpq.out.1, ← Hpq.out.2]; exact e3⟩)
                      clear e3
                      have hs7 : (a : Int) < 7 := by omega
                      have ht7 : (c : Int) < 7 := by omega
                      have hs0 : (0 : Int) ≤ (a : Int) := by omega
                      have ht0 : (0 : Int) ≤ (c : Int) := by omega
                      have hfz := Blk.fz HT6.out.e (a * 7 + c)
                      have hme := Blk.at HT6.out.e (show a * 7 + c < 49 by omega)
                      have hz66 := cells66
                      have RT := Lib.hid (HT6.out.put (s := a) hc7)
                      have RG := Lib.hid (sn_tr Hg6.out (put_grown w7 (w.heap.size + 1) (a * 7 + c) (.bool true)))
                      clear HT6 Hg6 HT5 Hg5 HT4 Hg4 HT HgC
                      go_wp2_with fail
                      go_roundw
                      case rel => exact ⟨x + 1, _, by go_num, by omega, RT.out, RG.out, R.out⟩
                      case measure => simp [intOf]; omega
                    · have q3 : ¬ (p : Int) > (q : Int) := by omega
                      have R := Lib.hid (HS.out fun r => e3 (by rw [Hpq.out.1, Hpq.out.2]; exact r.2.2.2))
                      clear e3
                      go_wp2_with fail
                      go_roundw
                      case rel => exact ⟨x + 1, _, by go_num, by omega, HT6.out, Hg6.out, R.out⟩
                      case measure => simp [intOf]; omega
            · obtain rfl : x = 6 := by omega
              have R := Lib.hid (mb_j HM.out)
              go_wp2_with fail
              go_roundw
              case rel => exact ⟨j + 1, _, by go_num, by omega, HT.out, HgC.out, R.out⟩
              case measure => simp [intOf]; omega
        · obtain rfl : j = l.length := by omega
          have R := Lib.hid (mb_i HM.out)
          go_wp2_with fail
          go_roundw
          case rel => exact ⟨i + 1, _, by go_num, by omega, HT.out, R.out⟩
          case measure => simp [intOf]; omega
    · obtain rfl : i = l.length := by omega
      obtain rfl := HF.out E HM.out
      have hB1 := HT.out.v
      have hB2 := HT.out.e
      unfold MatB Blk at hB1 hB2
      have hF : Blk (wA.setRow w.heap.size (mat (antiF h))) w.heap.size 80 49 (fun j => .bool (antiF h (j / 7) (j % 7))) := Blk.setRow HT.out.v _
      have hR : Below w.heap.size w (wA.setRow w.heap.size (mat (antiF h))) := below_setRow HT.out.b (Nat.le_refl _) _
      have hS : (Try.prog.info? 80).map (·.size) = some (mat (antiF h)).size := by unfold mat; rw [row_size]; kernel_rfl
      have hM : mat (antiF h) = row 49 fun j => .bool (antiF h (j / 7) (j % 7)) := rfl
      rw [← hM] at hB2
      have h1 := mat_one (antiF h)
      have hsz : (row 49 fun _ => Value.bool false).size = (mat (antiF h)).size := by unfold mat; rw [row_size, row_size]
      have HB1 := Lib.hid hB1
      have HB2 := Lib.hid hB2
      have HS := Lib.hid hS
      have H1 := Lib.hid h1
      have HZ := Lib.hid hsz
      have HF := Lib.hid hF
      have HR := Lib.hid hR
      clear hB1 hB2 hS h1 hsz hF hR hM
      obtain ⟨L, hL⟩ : ∃ L, L = mat (antiF h) := ⟨_, rfl⟩
      rw [← hL] at HB2 HS H1 HZ HF HR
      have HL := Lib.hid hL
      clear hL
      go_wp2_with (first | (refine wpList_load_row rfl 80 (.tmp 3) rfl (w.heap.size + 1) rfl 80 L (0, 0) _ HB2.out undEdges rfl HS.out ?_) | (refine wpList_store_row rfl 80 (.tmp 2) (.tmp 57) rfl w.heap.size L rfl rfl 80 (row 49 fun _ => .bool false) HB1.out HS.out HZ.out H1.out ?_))
      exact bodyPost_ret (results_cell_row Try.results74 _ _ w.heap.size 80 L (0, 0) _ rfl (by have := HF.out; rw [HL.out] at this ⊢; exact this) undEdges rfl HS.out) rfl ⟨by rw [HL.out], HR.out⟩
#print axioms anti_any
end Go.Proofs.Ytpehbffkplmfjaa

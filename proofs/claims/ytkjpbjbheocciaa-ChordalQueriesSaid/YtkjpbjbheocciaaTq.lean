/- FromQuery: the graph of a query's variables. -/
import Derived.Test.YtkjpbjbheocciaaTg
import Derived.Test.YtkjpbjbheocciaaFrh
namespace Go.Proofs.Ytkjpbjbheocciaa
open Go.RowKit
/-- the sets of variables of the atoms -/
def qs (bd : List HAt) : List Nat := bd.map fun a => vsA a.2
theorem qs_len (bd : List HAt) : (qs bd).length = bd.length := by simp [qs]
theorem nb_qs {bd : List HAt} {k : Nat} (h : k < bd.length) : nb (qs bd) k = vsA (aA bd k) := by simp [nb, qs, aA, h]
theorem nb_qs_lt (bd : List HAt) (k : Nat) : nb (qs bd) k < 256 := by
  by_cases h : k < bd.length
  · rw [nb_qs h]; exact vsA_lt _
  · rw [show nb (qs bd) k = 0 by unfold nb; rw [List.getD_eq_getElem?_getD, List.getElem?_eq_none (by rw [qs_len]; omega)]; rfl]; omega
theorem qs_take {bd : List HAt} {k : Nat} (h : k < bd.length) : (qs bd).take (k + 1) = (qs bd).take k ++ [vsA (aA bd k)] := by
  rw [List.take_succ_eq_append_getElem (by rw [qs_len]; exact h)]
  simp [qs, aA, h]
/-- the variables below k that occur -/
def vl (S k : Nat) : List Nat := (List.range k).filter fun v => S.testBit v
theorem vl_yes {S k : Nat} (h : S.testBit k = true) : vl S (k + 1) = vl S k ++ [k] := by simp [vl, List.range_succ, h]
theorem vl_no {S k : Nat} (h : S.testBit k = false) : vl S (k + 1) = vl S k := by simp [vl, List.range_succ, h]
theorem vl_len (S k : Nat) : (vl S k).length ≤ k := by
  have := List.length_filter_le (fun v => S.testBit v) (List.range k)
  rw [List.length_range] at this
  exact this
theorem mem_vl {S k v : Nat} : v ∈ vl S k ↔ v < k ∧ S.testBit v = true := by simp [vl]
theorem nb_vl_lt (S i : Nat) : nb (vl S 8) i < 64 := by
  by_cases h : i < (vl S 8).length
  · rw [nb_get h]
    have := (mem_vl.1 (List.getElem_mem h)).1
    omega
  · rw [show nb (vl S 8) i = 0 by unfold nb; rw [List.getD_eq_getElem?_getD, List.getElem?_eq_none (by omega)]; rfl]; omega
theorem vl_none {S : Nat} (hS : S < 256) : (vl S 8).length = 0 ↔ S = 0 := by
  rw [List.length_eq_zero_iff]
  constructor
  · intro h
    refine Nat.eq_of_testBit_eq fun i => ?_
    rw [Nat.zero_testBit]
    cases e : S.testBit i with
    | false => rfl
    | true =>
      have hi : i < 8 := by
        by_cases c : i < 8
        · exact c
        · rw [Nat.testBit_lt_two_pow (Nat.lt_of_lt_of_le (show S < 2 ^ 8 from hS) (Nat.pow_le_pow_right (by decide) (show 8 ≤ i by omega)))] at e
          cases e
      have : i ∈ vl S 8 := mem_vl.2 ⟨hi, e⟩
      rw [h] at this; cases this
  · rintro rfl
    refine List.eq_nil_iff_forall_not_mem.2 fun v hv => ?_
    have := (mem_vl.1 hv).2
    rw [Nat.zero_testBit] at this; cases this
/-- what FromQuery returns -/
def FqR (q : HQ) (base : Nat) (w : World) (x : Value) (c : Int) : Prop :=
  (c = 2 ∧ x = .slice none 0 0 ∧ ¬ (QrV q ∧ vsQ q.2 ≠ 0)) ∨ (c = 0 ∧ (QrV q ∧ vsQ q.2 ≠ 0) ∧ ∃ G, OwnInts base w x (castN G) ∧ Pt (qs q.2) (vl (vsQ q.2) 8) (qs q.2).length (fun _ _ => False) G)
set_option maxRecDepth 100000 in
set_option maxHeartbeats 16000000 in
theorem fromQ_any (q : HQ) (v : Value) (w : World) (hq : Qr w v q) :
    Calls Try.prog 55 #[v] w fun e w' => ∃ (x : Value) (c : Int), e = .returned (.tuple #[x, .int .i64 c]) ∧ FqR q w.heap.size w' x c ∧ Below w.heap.size w w' := by
  obtain ⟨h0, b0, rfl, hh, hb⟩ := hq
  obtain ⟨a2, b2, off2, cap2, rfl, hle2, ha2, hc2⟩ := Ints.get hh
  obtain ⟨a, b, off, cap, vs, rfl, hle, ha, hcap, hc⟩ := Atoms.get hb
  obtain ⟨w1, hw1⟩ : ∃ w1, w1 = w.alloc (.cells #[.slice a2 q.1.length cap2, .slice a q.2.length cap] 64) := ⟨_, rfl⟩
  have hb1 : Below w.heap.size w w1 := by rw [hw1]; exact below_alloc _ _
  have Hq1 := Lib.hid (show Qr w1 (.agg #[.slice a2 q.1.length cap2, .slice a q.2.length cap]) q from ⟨_, _, rfl, hh.keep hb1, hb.keep hb1⟩)
  have g0 : w1.cell? ⟨w.heap.size, 0, none⟩ = some (.slice a2 q.1.length cap2) := by rw [hw1]; exact cell_new w _ _ 0
  have g1 : w1.cell? ⟨w.heap.size, 1, none⟩ = some (.slice a q.2.length cap) := by rw [hw1]; exact cell_new w _ _ 1
  have HG := Lib.hid (And.intro g0 g1)
  have Hb1 := Lib.hid hb1
  have Hw1 := Lib.hid hw1
  have Hc := Lib.hid hc
  have Hix := Lib.hid (run_ix (P := Try.prog) (t := 62) (a := a) (len := q.2.length) (cap := cap) (b := b) (off := off) (s := 2) Try.underlying62 (by intro w; kernel_rfl) ha)
  obtain ⟨ob, hob⟩ : ∃ ob, ob = w.heap.size := ⟨_, rfl⟩
  rw [← hob] at g0 g1 HG
  have Hob := Lib.hid hob
  clear hh hb hb1 hw1 hc ha ha2 hc2 hcap hob
  by_cases hn : QrV q
  · have HF := Lib.hid (freezeE_any hn _ w1 Hq1.out)
    have HA := Lib.hid (show ∀ k, k < q.2.length → ∀ m, m < (aA q.2 k).length → -9 ≤ (aA q.2 k).getD m 0 ∧ (aA q.2 k).getD m 0 ≤ 7 from fun k hk m hm => (hn.2.1 k hk).2.2 _ (by rw [List.getD_eq_getElem?_getD, List.getElem?_eq_getElem hm]; exact List.getElem_mem hm))
    have h5 := hn.1.2.1
    have Hn := Lib.hid hn
    obtain ⟨hd, bd⟩ := q
    simp only at *
    have Hs := Lib.hid (fun (l : List Int) k => show vsT l (k + 1) = if isV (l.getD k 0) then vsT l k ||| 2 ^ (l.getD k 0).toNat else vsT l k from rfl)
    have HsB := Lib.hid (fun k => show vsB bd (k + 1) = vsB bd k ||| vsA (aA bd k) from rfl)
    have HlB := Lib.hid (vsB_lt bd)
    clear hn Hq1
    go_enter Try.func55, Try.ntmps55
    go_upto_region 1 with fail
    rw [← Hw1.out, ← Hob.out]
    clear Hw1
    go_wp2_with fail
    refine HF.out.mono ?_
    rintro e w2 ⟨fu, fx, rfl, hfu, hfx, hb2⟩
    obtain ⟨fa, fc, rfl⟩ := Atoms.own hfu
    obtain ⟨xa, xn, xc, rfl⟩ := own_slice hfx
    have Hb2 := Lib.hid (Below.tr Hb1.out hb2)
    have g1' := Below.keep hb2 HG.out.2
    clear hfu hfx HF g0 g1 hb2 HG Hb1
    go_wp2_with fail
    clear g1'
    go_loopw [7, 8, 27] (fun vo vs vi wr => ∃ k : Nat, OwnInts w.heap.size wr vo (castN ((qs bd).take k)) ∧ vs = .int .i64 (vsB bd k : Nat) ∧ vi = .int .i64 k ∧ k ≤ bd.length ∧ Below w.heap.size w wr) (fun _ _ vi _ => bd.length - (intOf vi).toNat)
    case atStart => exact ⟨0, ownInts_nil _ _, rfl, rfl, Nat.zero_le _, Hb2.out⟩
    case round =>
      clear Hb2
      obtain ⟨k, ho, rfl, rfl, hk, hb⟩ := hrel
      obtain ⟨oa, on, oc, rfl⟩ := own_slice ho
      have HO := Lib.hid ho
      have Hb := Lib.hid hb
      clear ho hb
      by_cases hlt : k < bd.length
      · have hc1 := Below.keep Hb.out (Hc.out k hlt).1
        have hc2 := Below.keep Hb.out (Hc.out k hlt).2.1
        have hi := Ints.keep (Hc.out k hlt).2.2 Hb.out
        have hixk := Hix.out k
        have HT := Lib.hid (qs_take hlt)
        have RB := Lib.hid (HsB.out k)
        have HAk := Lib.hid (HA.out k hlt)
        have hlB := HlB.out k
        have hll : ((castN ((qs bd).take k)).length) ≤ 5 := by rw [castN_length, List.length_take, qs_len]; omega
        obtain ⟨a3, b3, off3, cap3, hu, hle3, ha3, hc3⟩ := Ints.get hi
        rw [hu] at hc2
        clear hu hi
        obtain ⟨r, hr⟩ : ∃ t, t = aR bd k := ⟨_, rfl⟩
        obtain ⟨A, hA⟩ : ∃ t, t = aA bd k := ⟨_, rfl⟩
        obtain ⟨SB, hSB⟩ : ∃ t, t = vsB bd k := ⟨_, rfl⟩
        rw [← hr] at hc1
        rw [← hA] at hc2 HT RB HAk hle3 ha3 hc3
        rw [← hSB] at RB hlB ⊢
        clear hr hA hSB
        have Hix3 := Lib.hid (run_ix (P := Try.prog) (t := 22) (a := a3) (len := A.length) (cap := cap3) (b := b3) (off := off3) (s := 1) Try.underlying22 (by intro w; kernel_rfl) ha3)
        simp only [Nat.mul_one] at Hix3
        obtain ⟨w4, hw4⟩ : ∃ w4, w4 = wr.alloc (.cells #[.int .i64 r, .slice a3 A.length cap3] 106) := ⟨_, rfl⟩
        have hb4 : Below wr.heap.size wr w4 := by rw [hw4]; exact below_alloc _ _
        have g1 : w4.cell? ⟨wr.heap.size, 1, none⟩ = some (.slice a3 A.length cap3) := by rw [hw4]; exact cell_new wr _ _ 1
        have HO4 := Lib.hid (HO.out.keep hb4)
        have Hb4 := Lib.hid (Below.tr Hb.out hb4)
        have Hc3 := Lib.hid (fun i h => Below.keep hb4 (hc3 i h))
        have Hw4 := Lib.hid hw4
        clear hb4 hw4 HO Hb ha3 hc3
        go_upto_region 9 with fail
        rw [← Hw4.out]
        clear Hw4 hc1 hc2 hixk
        go_wp2_with fail
        clear g1
        go_loopw [11, 34] (fun vs vi wx => ∃ m : Nat, vs = .int .i64 (vsT A m : Nat) ∧ vi = .int .i64 m ∧ m ≤ A.length ∧ wx = w4) (fun _ vi _ => A.length - (intOf vi).toNat)
        case atStart => exact ⟨0, rfl, rfl, Nat.zero_le _, rfl⟩
        case round =>
          obtain ⟨m, rfl, rfl, hm, rfl⟩ := hrel
          by_cases hlm : m < A.length
          · have hc1 := Hc3.out m hlm
            have hixm := Hix3.out m
            have HS := Lib.hid (Hs.out A m)
            have hlt1 := vsT_lt A m
            have ht7 := HAk.out m hlm
            have e : A.getD m 0 = A[m] := by rw [List.getD_eq_getElem?_getD, List.getElem?_eq_getElem hlm]; rfl
            rw [← e] at hc1
            obtain ⟨t, ht⟩ : ∃ t, t = A.getD m 0 := ⟨_, rfl⟩
            obtain ⟨S, hS⟩ : ∃ S, S = vsT A m := ⟨_, rfl⟩
            rw [← ht, ← hS] at HS
            rw [← ht] at hc1 ht7
            rw [← hS] at hlt1 ⊢
            clear ht hS e
            by_cases h : isV t
            · have R := Lib.hid (HS.out.trans (if_pos h))
              unfold isV at h
              obtain ⟨n, rfl⟩ : ∃ n : Nat, t = n := ⟨t.toNat, by omega⟩
              rw [Int.toNat_natCast] at R
              have hn8 : n < 8 := by omega
              have hsh := one_shl n
              have hp : 2 ^ n < 256 := Nat.lt_of_lt_of_eq (Nat.pow_lt_pow_right (a := 2) (by decide) hn8) (by decide)
              have hor := bits_or_nat S (2 ^ n) (by omega) (by omega)
              obtain ⟨p, hpn⟩ : ∃ p, p = 2 ^ n := ⟨_, rfl⟩
              rw [← hpn] at R hsh hp hor
              have hge : (n : Int) ≥ 0 := by omega
              have hn0 : (0 : Int) ≤ (n : Int) := by omega
              have hw := wrap_nat p (by omega)
              clear hpn h
              go_wp2_with fail
              go_roundw
              case rel => exact ⟨m + 1, by rw [R.out], by go_num, by omega, (by first | rfl | trivial)⟩
              case measure => simp [intOf]; omega
            · have R := Lib.hid (HS.out.trans (if_neg h))
              have hge : ¬ t ≥ 0 := fun q => h ⟨q, by omega⟩
              clear h
              go_wp2_with fail
              go_roundw
              case rel => exact ⟨m + 1, by rw [R.out], by go_num, by omega, (by first | rfl | trivial)⟩
              case measure => simp [intOf]; omega
          · obtain rfl : m = A.length := by omega
            have hV := vsA_lt A
            have hVe : vsT A A.length = vsA A := rfl
            obtain ⟨V, hVn⟩ : ∃ V, V = vsA A := ⟨_, rfl⟩
            rw [hVe, ← hVn]
            rw [← hVn] at hV HT RB
            have hor := bits_or_nat SB V (by omega) (by omega)
            clear hVe hVn HAk Hc3 Hix3
            go_wp2_with (at_builtin; refine append_own rfl (.tmp 45) (.tmp 47) 22 rfl elemInts rfl (World.ownsRow.alloc HO4.out _) [.int .i64 V] rfl rfl ?c1 ?c2 ?c3 ?c4 ?_)
            case c1 => intro j u hj; go_simp
            case c2 => intro u hu; simp at hu; subst hu; rfl
            case c3 => omega
            case c4 => simp; have := Hb4.out.size; omega
            intro v' w6 h1 h2 _
            have HO6 := Lib.hid (show OwnInts w.heap.size w6 v' (castN ((qs bd).take (k + 1))) from by
              rw [HT.out, castN_append]; exact OwnInts.snoc h1)
            have Hb6 := Lib.hid (show Below w.heap.size w w6 from (Below.tr Hb4.out (below_alloc _ _)).trans h2)
            clear h1 h2
            go_wp2_with fail
            go_roundw
            case rel => exact ⟨k + 1, HO6.out, by rw [RB.out], by go_num, by omega, Hb6.out⟩
            case measure => simp [intOf]; omega
      · obtain rfl : k = bd.length := by omega
        have hS : vsB bd bd.length < 256 := HlB.out _
        have HO5 := Lib.hid (show OwnInts w.heap.size wr (.slice oa on oc) (castN (qs bd)) from by
          have := HO.out
          rw [List.take_of_length_le (by rw [qs_len]; omega)] at this
          exact this)
        have HSn := Lib.hid (show vsB bd bd.length = vsQ bd from rfl)
        obtain ⟨S, hSn⟩ : ∃ S, S = vsB bd bd.length := ⟨_, rfl⟩
        rw [← hSn] at hS HSn ⊢
        obtain ⟨w5, hw5⟩ : ∃ w5, w5 = wr := ⟨_, rfl⟩
        have Hrf := Lib.hid (show Below w5.heap.size w5 wr from by rw [hw5]; exact Below.refl _ _)
        rw [← hw5] at HO5 Hb
        clear hSn HO
        go_wp2_with fail
        clear hw5
        go_loopw [14, 53] (fun vo vi wx => ∃ j : Nat, OwnInts w5.heap.size wx vo (castN (vl S j)) ∧ vi = .int .i64 j ∧ j ≤ 8 ∧ Below w5.heap.size w5 wx) (fun _ vi _ => 8 - (intOf vi).toNat)
        case atStart => exact ⟨0, ownInts_nil _ _, rfl, by omega, Hrf.out⟩
        case round =>
          clear Hrf
          obtain ⟨j, ho, rfl, hj, hb⟩ := hrel
          obtain ⟨va, vc, rfl⟩ := ints_slice ho.ints
          rw [castN_length] at ho ⊢
          have Hvo := Lib.hid ho
          have Hbx := Lib.hid hb
          clear ho hb
          by_cases hlj : j < 8
          · have hlj8 : (j : Int) < 8 := by omega
            have hvl := vl_len S j
            cases B : S.testBit j with
            | false =>
              have H1 := Lib.hid (has_any S j (by omega) (by omega) wr)
              rw [B] at H1
              have R := Lib.hid (vl_no B)
              clear B
              go_wp2_with fail
              refine H1.out.mono ?_
              rintro e w6 ⟨rfl, rfl⟩
              go_wp2_with fail
              go_roundw
              case rel => exact ⟨j + 1, by rw [R.out]; exact Hvo.out, by go_num, by omega, Hbx.out⟩
              case measure => simp [intOf]; omega
            | true =>
              have H1 := Lib.hid (has_any S j (by omega) (by omega) wr)
              rw [B] at H1
              have R := Lib.hid (vl_yes B)
              have hll : (castN (vl S j)).length ≤ 8 := by rw [castN_length]; omega
              have Hvo2 := Lib.hid (show wr.ownsRow w5.heap.size 3 1 (.slice va (vl S j).length vc) (castN (vl S j)).length ((castN (vl S j)).map (Value.int .i64)) from Hvo.out)
              clear B
              go_wp2_with fail
              refine H1.out.mono ?_
              rintro e w6 ⟨rfl, rfl⟩
              go_wp2_with (at_builtin; refine append_own rfl (.tmp 59) (.tmp 61) 22 rfl elemInts rfl (World.ownsRow.alloc Hvo2.out _) [.int .i64 j] rfl rfl ?c1 ?c2 ?c3 ?c4 ?_)
              case c1 => intro j u hj; go_simp
              case c2 => intro u hu; simp at hu; subst hu; rfl
              case c3 => omega
              case c4 => simp; have := Hbx.out.size; omega
              intro v' w6 h1 h2 _
              have HO6 := Lib.hid (show OwnInts w5.heap.size w6 v' (castN (vl S (j + 1))) from by
                rw [R.out, castN_append]; exact OwnInts.snoc h1)
              have Hb6 := Lib.hid (show Below w5.heap.size w5 w6 from (Below.tr Hbx.out (below_alloc _ _)).trans h2)
              clear h1 h2
              go_wp2_with fail
              go_roundw
              case rel => exact ⟨j + 1, HO6.out, by go_num, by omega, Hb6.out⟩
              case measure => simp [intOf]; omega
          · obtain rfl : j = 8 := by omega
            have Hbz := Lib.hid (show Below w.heap.size w wr from Below.tr Hb.out Hbx.out)
            have Hz := Lib.hid (vl_none hS)
            have hvl := vl_len S 8
            have HTg := Lib.hid (together_any (vl S 8) (qs bd) (vl_len S 8) (nb_vl_lt S) (nb_qs_lt bd) (.slice va (vl S 8).length vc) (.slice oa on oc) wr Hvo.out.ints (HO5.out.keep Hbx.out).ints)
            obtain ⟨L, hL⟩ : ∃ L, L = (vl S 8).length := ⟨_, rfl⟩
            rw [← hL] at HTg Hz hvl ⊢
            clear hL Hvo
            by_cases c : L = 0
            · subst c
              have R := Lib.hid (show FqR (hd, bd) w.heap.size wr (.slice none 0 0) 2 from .inl ⟨rfl, rfl, fun h => h.2 (by rw [← HSn.out]; exact Hz.out.1 rfl)⟩)
              go_wp2_with fail
              go_ret2
              exact ⟨_, _, rfl, R.out, Hbz.out⟩
            · have q1 : ((L : Int) == 0) = false := by rw [beq_eq_false_iff_ne]; omega
              have Hnz := Lib.hid (show vsQ bd ≠ 0 from fun h => c (Hz.out.2 (HSn.out.trans h)))
              have Hbs := Lib.hid Hbz.out.size
              go_wp2_with fail
              refine HTg.out.mono ?_
              rintro e w6 ⟨x, G, rfl, hx, hp, hb6⟩
              obtain ⟨ya, yn, yc, rfl⟩ := own_slice hx
              have R := Lib.hid (show FqR (hd, bd) w.heap.size w6 (.slice ya yn yc) 0 from .inr ⟨rfl, ⟨Hn.out, Hnz.out⟩, G, OwnInts.base hx Hbs.out, by rw [← show S = vsQ (hd, bd).2 from HSn.out]; exact hp⟩)
              have Hb6 := Lib.hid (Below.tr Hbz.out hb6)
              clear hx hp hb6
              go_wp2_with fail
              go_ret2
              exact ⟨_, _, rfl, R.out, Hb6.out⟩
  · have HF := Lib.hid (freezeE_bad hn _ w1 Hq1.out)
    have Hn := Lib.hid hn
    clear hn Hq1
    obtain ⟨hd, bd⟩ := q
    simp only at *
    go_enter Try.func55, Try.ntmps55
    go_upto_region 1 with fail
    rw [← Hw1.out, ← Hob.out]
    clear Hw1
    go_wp2_with fail
    refine HF.out.mono ?_
    rintro e w2 ⟨rfl, hb2⟩
    have Hb2 := Lib.hid (Below.tr Hb1.out hb2)
    have R := Lib.hid (show FqR (hd, bd) w.heap.size w2 (.slice none 0 0) 2 from .inl ⟨rfl, rfl, fun h => Hn.out h.1⟩)
    clear hb2
    go_wp2_with fail
    go_ret2
    exact ⟨_, _, rfl, R.out, Hb2.out⟩
#print axioms fromQ_any
end Go.Proofs.Ytkjpbjbheocciaa

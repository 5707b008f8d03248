/- Contract of CheckHom. -/
import Derived.Test.YtfplmdieeabgpaaChi
import Derived.Test.YtfplmdieeabgpaaQx
namespace Go.Proofs.Ytfplmdieeabgpaa
open Go.RowKit
def CheckC (p q : HQ) (H : List Int) (B : Bool) (c : Int) : Prop := (¬ PairV p q ∧ B = false ∧ c = 2) ∨ (PairV p q ∧ c = 0 ∧ (B = true ↔ HomP p q H))
/-- the boxes of the two queries -/
structure M2 (w wr : World) (bp bq : Nat) (x0 x1 y0 y1 : Value) : Prop where
  b : Below w.heap.size w wr
  p : wr.heap[bp]? = some (.cells #[x0, x1] 33 (0, 0))
  q : wr.heap[bq]? = some (.cells #[y0, y1] 33 (0, 0))
theorem M2.keep {w wr w' : World} {bp bq : Nat} {x0 x1 y0 y1 : Value} (h : M2 w wr bp bq x0 x1 y0 y1) (hb : Below wr.heap.size wr w') : M2 w w' bp bq x0 x1 y0 y1 :=
  ⟨Below.tr h.b hb, blk_keep2 h.p hb, blk_keep2 h.q hb⟩
theorem M2.new {w w1 w2 : World} {x0 x1 y0 y1 : Value} (h1 : w1 = w.alloc (.cells #[x0, x1] 33)) (h2 : w2 = w1.alloc (.cells #[y0, y1] 33)) {bp bq : Nat} (hp : bp = w.heap.size) (hq : bq = bp + 1) : M2 w w2 bp bq x0 x1 y0 y1 := by
  have k1 : Below w.heap.size w w1 := by rw [h1]; exact below_alloc _ _
  have k2 : Below w1.heap.size w1 w2 := by rw [h2]; exact below_alloc _ _
  have z : w1.heap.size = w.heap.size + 1 := by rw [h1]; simp
  refine ⟨Below.tr k1 k2, blk_keep2 (by rw [hp, h1]; exact heap_alloc_new w _) k2, ?_⟩
  rw [hq, hp, ← z, h2]; exact heap_alloc_new w1 _
set_option maxRecDepth 100000 in
set_option maxHeartbeats 16000000 in
theorem checkHom_any {p q : HQ} (H : List Int) (v u x : Value) (w : World) (hv : Qr w v p) (hu : Qr w u q) (hx : Ints w x H) :
    Calls Try.prog 29 #[v, u, x] w fun e w' => ∃ B c, e = .returned (.tuple #[.bool B, .int .i64 c]) ∧ CheckC p q H B c ∧ Below w.heap.size w w' := by
  obtain ⟨h0, b0, rfl, hh, hb⟩ := hv
  obtain ⟨h1, b1, rfl, hh1, hb1⟩ := hu
  have hV := fun w' (hb' : Below w.heap.size w w') B (hB : decide (PairV p q) = B) => validPair_any (p := p) (q := q) (.agg #[h0, b0]) (.agg #[h1, b1]) w' ⟨h0, b0, rfl, hh.keep hb', hb.keep hb'⟩ ⟨h1, b1, rfl, hh1.keep hb', hb1.keep hb'⟩ B hB
  have HVr := Lib.hid (fun w' (hw : Below w.heap.size w w') => qryVars_any p.2 h0 b0 w' (hb.keep hw))
  have Hhp := Lib.hid hh
  have Hhq := Lib.hid hh1
  have Hbp := Lib.hid hb
  have Hbq := Lib.hid hb1
  obtain ⟨ha, hc, rfl⟩ := ints_slice hh
  obtain ⟨ba, bc, rfl⟩ := atoms_slice hb
  obtain ⟨ha1, hc1, rfl⟩ := ints_slice hh1
  obtain ⟨ba1, bc1, rfl⟩ := atoms_slice hb1
  have Hx := Lib.hid hx
  obtain ⟨xa, xb, xoff, xc, rfl, xle, xha, xhc⟩ := Ints.get hx
  have Hix := Lib.hid (run_ix (P := Try.prog) (t := 22) (a := xa) (len := H.length) (cap := xc) (b := xb) (off := xoff) (s := 1) Try.underlying22 (by intro w; kernel_rfl) xha)
  simp only [Nat.mul_one] at Hix
  have Hxc := Lib.hid (show ∀ i, i < H.length → w.cell? ⟨xb, xoff + i, none⟩ = some (.int .i64 (H.getD i 0)) from fun i hi => by rw [xhc i hi, List.getD_eq_getElem?_getD, List.getElem?_eq_getElem hi]; rfl)
  obtain ⟨a, b, off, cap, vs, hbv, ble, bha, bcap, bhc⟩ := Atoms.get Hbp.out
  injection hbv with e1 e2 e3
  subst e1; subst e3
  have Hixb := Lib.hid (run_ix (P := Try.prog) (t := 31) (a := ba) (len := p.2.length) (cap := bc) (b := b) (off := off) (s := 2) Try.underlying31 (by intro w; kernel_rfl) bha)
  have Hbc := Lib.hid bhc
  obtain ⟨w1, hw1⟩ : ∃ x, x = w.alloc (.cells #[.slice ha p.1.length hc, .slice ba p.2.length bc] 33) := ⟨_, rfl⟩
  obtain ⟨w2, hw2⟩ : ∃ x, x = w1.alloc (.cells #[.slice ha1 q.1.length hc1, .slice ba1 q.2.length bc1] 33) := ⟨_, rfl⟩
  obtain ⟨bp, hbp⟩ : ∃ x, x = w.heap.size := ⟨_, rfl⟩
  obtain ⟨bq, hbq⟩ : ∃ x, x = bp + 1 := ⟨_, rfl⟩
  have HM := Lib.hid (M2.new hw1 hw2 hbp hbq)
  have Hw1 := Lib.hid hw1
  have Hw2 := Lib.hid hw2
  have Hbpe := Lib.hid hbp
  have Hbqe := Lib.hid hbq
  clear hh hh1 hb hb1 hx hw1 hw2 hbp hbq xha xhc bha bhc bcap e2
  by_cases c : PairV p q
  · have HV := Lib.hid (hV _ HM.out.b true (decide_eq_true c))
    have HF := Lib.hid (fun (r : ¬ HomP p q H) => show CheckC p q H false 0 from .inr ⟨c, rfl, ⟨fun h => (by cases h), fun h => absurd h r⟩⟩)
    have HT := Lib.hid (fun (r : HomP p q H) => show CheckC p q H true 0 from .inr ⟨c, rfl, ⟨fun _ => r, fun _ => rfl⟩⟩)
    have Hc := Lib.hid c
    clear hV c
    go_enter Try.func29, Try.ntmps29
    go_upto_region 1 with fail
    rw [← Hw1.out, ← Hw2.out, ← Hbpe.out, ← Hbqe.out]
    clear Hw1 Hw2
    have g0 := aCell HM.out.p 0 rfl
    have g1 := aCell HM.out.p 1 rfl
    have g2 := aCell HM.out.q 0 rfl
    have g3 := aCell HM.out.q 1 rfl
    go_wp2_with fail
    refine HV.out.mono ?_
    rintro e w3 ⟨rfl, hb3⟩
    have HM := Lib.hid (HM.out.keep hb3)
    clear hb3 g0 g1 g2 g3
    by_cases h8 : H.length = 8
    · have H8 := Lib.hid h8
      rw [h8] at Hix Hx Hxc ⊢
      clear h8 xle
      have g0 := aCell HM.out.p 0 rfl
      have g2 := aCell HM.out.q 0 rfl
      by_cases ca : agr H p.1 q.1
      · have HA := Lib.hid (agrees_any H p.1 q.1 H8.out (fun k hk => by have := head_occ Hc.out.1 hk; exact ⟨this.1, this.2.1⟩) (Nat.le_of_eq Hc.out.2.2) _ _ _ w3 (Hx.out.keep HM.out.b) (Hhp.out.keep HM.out.b) (Hhq.out.keep HM.out.b) true (decide_eq_true ca))
        have Hca := Lib.hid ca
        clear ca
        go_wp2_with fail
        refine HA.out.mono ?_
        rintro e w4 ⟨rfl, m, hm⟩
        have HM := Lib.hid (HM.out.keep (show Below w3.heap.size w3 w4 by rw [hm]; exact ⟨rfl, rfl, rfl, Nat.le_refl _, fun _ _ => rfl⟩))
        clear hm g0 g2
        go_wp2_with fail
        go_loopw [30] (fun vi wr => ∃ k : Nat, vi = .int .i64 k ∧ k ≤ 8 ∧ M2 w wr bp bq (.slice ha p.1.length hc) (.slice ba p.2.length bc) (.slice ha1 q.1.length hc1) (.slice ba1 q.2.length bc1) ∧ ∀ i, i < k → (vsQ p.2).testBit i = true ∨ H.getD i 0 = 99) (fun vi _ => 8 - (intOf vi).toNat)
        case atStart => exact ⟨0, rfl, Nat.zero_le _, HM.out, fun i hi => by omega⟩
        case round =>
          clear HM
          obtain ⟨k, rfl, hk, hm, hin⟩ := hrel
          have HM := Lib.hid hm
          have Hin := Lib.hid hin
          clear hm hin
          by_cases hlt : k < 8
          · have hck := Below.keep HM.out.b (Hxc.out k hlt)
            have hixk := Hix.out k
            have g0 := aCell HM.out.p 0 rfl
            have g1 := aCell HM.out.p 1 rfl
            have HVq := Lib.hid (HVr.out _ HM.out.b)
            have hvl := vsB_lt p.2 p.2.length
            have HY := Lib.hid (fun (r : (vsQ p.2).testBit k = true ∨ H.getD k 0 = 99) => show ∀ i, i < k + 1 → (vsQ p.2).testBit i = true ∨ H.getD i 0 = 99 from fun i hi => by
              by_cases e : i = k
              · subst e; exact r
              · exact Hin.out i (by omega))
            have HN := Lib.hid (fun (r : ¬ ((vsQ p.2).testBit k = true ∨ H.getD k 0 = 99)) => HF.out fun h => r (by
              by_cases o : occ p.2 k
              · exact .inl ((vsQ_bit _ _).2 ⟨hlt, o⟩)
              · exact .inr (h.out k hlt o)))
            change vsQ p.2 < 256 at hvl
            obtain ⟨V, hV⟩ : ∃ V, V = vsQ p.2 := ⟨_, rfl⟩
            rw [← hV] at HVq HY HN hvl
            have HVe := Lib.hid hV
            obtain ⟨t, ht⟩ : ∃ t, t = H.getD k 0 := ⟨_, rfl⟩
            rw [← ht] at hck HY HN
            clear hV ht
            have hn64 : (k : Int) < 64 := by omega
            have hn0 : (0 : Int) ≤ (k : Int) := by omega
            by_cases h2 : V.testBit k = true
            · have R := Lib.hid (HY.out (.inl h2))
              have H2 := Lib.hid h2
              clear h2
              go_wp2_with fail
              refine HVq.out.mono ?_
              rintro e w5 ⟨rfl, hb5⟩
              have HM := Lib.hid (HM.out.keep hb5)
              have t1 := qshr_bit V k (by omega)
              obtain ⟨P, hP, p1, p2, p3⟩ := qpow_name k (by omega)
              rw [p1] at t1
              first | rw [if_pos H2.out] at t1 | rw [if_neg H2.out] at t1
              clear hP
              clear hb5 g0 g1 hck
              go_wp2_with fail
              go_roundw
              case rel => exact ⟨k + 1, by go_num, by omega, HM.out, by rw [← HVe.out]; exact R.out⟩
              case measure => simp [intOf]; omega
            · have H2 := Lib.hid h2
              by_cases h3 : t = 99
              · have q3 : (t != 99) = false := by rw [bne_eq_false_iff_eq]; exact h3
                have R := Lib.hid (HY.out (.inr h3))
                clear h2 h3
                go_wp2_with fail
                refine HVq.out.mono ?_
                rintro e w5 ⟨rfl, hb5⟩
                have HM := Lib.hid (HM.out.keep hb5)
                have t1 := qshr_bit V k (by omega)
                obtain ⟨P, hP, p1, p2, p3⟩ := qpow_name k (by omega)
                rw [p1] at t1
                first | rw [if_pos H2.out] at t1 | rw [if_neg H2.out] at t1
                clear hP
                clear hb5 g0 g1 hck
                go_wp2_with fail
                go_roundw
                case rel => exact ⟨k + 1, by go_num, by omega, HM.out, by rw [← HVe.out]; exact R.out⟩
                case measure => simp [intOf]; omega
              · have q3 : (t != 99) = true := by rw [bne_iff_ne]; exact h3
                have R := Lib.hid (HN.out (fun r => r.elim h2 h3))
                clear h2 h3
                go_wp2_with fail
                refine HVq.out.mono ?_
                rintro e w5 ⟨rfl, hb5⟩
                have HM := Lib.hid (HM.out.keep hb5)
                have t1 := qshr_bit V k (by omega)
                obtain ⟨P, hP, p1, p2, p3⟩ := qpow_name k (by omega)
                rw [p1] at t1
                first | rw [if_pos H2.out] at t1 | rw [if_neg H2.out] at t1
                clear hP
                clear hb5 g0 g1 hck
                go_wp2_with fail
                go_ret2
                exact ⟨_, _, rfl, R.out, HM.out.b⟩
          · obtain rfl : k = 8 := by omega
            have g1 := aCell HM.out.p 1 rfl
            go_wp2_with fail
            clear g1
            go_loopw [49] (fun vi wr => ∃ k : Nat, vi = .int .i64 k ∧ k ≤ p.2.length ∧ M2 w wr bp bq (.slice ha p.1.length hc) (.slice ba p.2.length bc) (.slice ha1 q.1.length hc1) (.slice ba1 q.2.length bc1) ∧ ∀ i, i < k → (aR p.2 i, (aA p.2 i).map (app H)) ∈ q.2) (fun vi _ => p.2.length - (intOf vi).toNat)
            case atStart => exact ⟨0, rfl, Nat.zero_le _, HM.out, fun i hi => by omega⟩
            case round =>
              clear HM
              obtain ⟨k, rfl, hk, hm, him⟩ := hrel
              have HM := Lib.hid hm
              have Him := Lib.hid him
              clear hm him
              by_cases hlt : k < p.2.length
              · have hc1' := Below.keep HM.out.b (Hbc.out k hlt).1
                have hc2' := Below.keep HM.out.b (Hbc.out k hlt).2.1
                have hik := Ints.keep (Hbc.out k hlt).2.2 HM.out.b
                have hixk := Hixb.out k
                have HN := Lib.hid (fun (r : ¬ (aR p.2 k, (aA p.2 k).map (app H)) ∈ q.2) => HF.out fun h => r (by
                  have := h.img _ (List.getElem_mem hlt)
                  rw [at_get hlt] at this; exact this))
                have HY := Lib.hid (fun (r : (aR p.2 k, (aA p.2 k).map (app H)) ∈ q.2) => show ∀ i, i < k + 1 → (aR p.2 i, (aA p.2 i).map (app H)) ∈ q.2 from fun i hi => by
                  by_cases e : i = k
                  · subst e; exact r
                  · exact Him.out i (by omega))
                obtain ⟨ua, uc, hux⟩ := ints_slice hik
                rw [hux] at hc2' hik
                obtain ⟨w5, hw5⟩ : ∃ x, x = wr.alloc (.cells #[.int .i64 (aR p.2 k), .slice ua (aA p.2 k).length uc] 88) := ⟨_, rfl⟩
                have hb5 : Below wr.heap.size wr w5 := by rw [hw5]; exact below_alloc _ _
                obtain ⟨B, hB⟩ : ∃ B, decide ((aR p.2 k, (aA p.2 k).map (app H)) ∈ q.2) = B := ⟨_, rfl⟩
                have hat := Hc.out.1.2.1 k hlt
                have HI := Lib.hid (hasImage_any (aR p.2 k) (aA p.2 k) (qv_args Hc.out.1 k hlt).2 (by have := hat.2.1; omega) (qv_args Hc.out.1 k hlt).1 H H8.out q.2 (.slice ua (aA p.2 k).length uc) (.slice xa 8 xc) (.slice ba1 q.2.length bc1) w5 (hik.keep hb5) (Hx.out.keep (Below.tr HM.out.b hb5)) (Hbq.out.keep (Below.tr HM.out.b hb5)) B hB)
                have g4 : w5.cell? ⟨wr.heap.size, 0, none⟩ = some (.int .i64 (aR p.2 k)) := by rw [hw5]; exact cell_new wr _ _ 0
                have g5 : w5.cell? ⟨wr.heap.size, 1, none⟩ = some (.slice ua (aA p.2 k).length uc) := by rw [hw5]; exact cell_new wr _ _ 1
                have HM := Lib.hid (HM.out.keep hb5)
                have g6 := aCell HM.out.q 1 rfl
                obtain ⟨r, hr⟩ : ∃ x, x = aR p.2 k := ⟨_, rfl⟩
                obtain ⟨un, hun⟩ : ∃ x, x = (aA p.2 k).length := ⟨_, rfl⟩
                rw [← hr] at HI g4 hc1' hw5
                rw [← hun] at HI g5 hc2' hw5
                have Hw5 := Lib.hid hw5
                have HB := Lib.hid hB
                clear hik hux hb5 hw5 hat hr hun hB
                go_upto_region 14 with fail
                rw [← Hw5.out]
                clear Hw5 hc1' hc2' hixk
                go_wp2_with fail
                refine HI.out.mono ?_
                rintro e w6 ⟨rfl, hb6⟩
                have HM := Lib.hid (HM.out.keep hb6)
                clear hb6 g4 g5 g6
                cases B with
                | true =>
                  have R := Lib.hid (HY.out (of_decide_eq_true HB.out))
                  go_wp2_with fail
                  go_roundw
                  case rel => first | exact ⟨k + 1, by go_num, by omega, HM.out, R.out⟩ | ((repeat apply Exists.intro); exact ⟨⟨k + 1, by go_num, by omega, HM.out, R.out⟩, rfl⟩)
                  case measure => simp [intOf]; omega
                | false =>
                  have R := Lib.hid (HN.out (of_decide_eq_false HB.out))
                  go_wp2_with fail
                  go_ret2
                  exact ⟨_, _, rfl, R.out, HM.out.b⟩
              · obtain rfl : k = p.2.length := by omega
                have R := Lib.hid (HT.out ⟨H8.out, fun a ha => by
                  obtain ⟨i, hi, rfl⟩ := List.getElem_of_mem ha
                  have := Him.out i hi
                  rw [at_get hi]; exact this, fun i hi ho => by
                  rcases Hin.out i hi with h | h
                  · exact absurd ((vsQ_bit _ _).1 h).2 ho
                  · exact h, Hca.out⟩)
                go_wp2_with fail
                go_ret2
                exact ⟨_, _, rfl, R.out, HM.out.b⟩
      · have HA := Lib.hid (agrees_any H p.1 q.1 H8.out (fun k hk => by have := head_occ Hc.out.1 hk; exact ⟨this.1, this.2.1⟩) (Nat.le_of_eq Hc.out.2.2) _ _ _ w3 (Hx.out.keep HM.out.b) (Hhp.out.keep HM.out.b) (Hhq.out.keep HM.out.b) false (decide_eq_false ca))
        have R := Lib.hid (HF.out fun h => ca h.hd)
        clear ca
        go_wp2_with fail
        refine HA.out.mono ?_
        rintro e w4 ⟨rfl, m, hm⟩
        have HM := Lib.hid (HM.out.keep (show Below w3.heap.size w3 w4 by rw [hm]; exact ⟨rfl, rfl, rfl, Nat.le_refl _, fun _ _ => rfl⟩))
        clear hm g0 g2
        go_wp2_with fail
        go_ret2
        exact ⟨_, _, rfl, R.out, HM.out.b⟩
    · have q8 : ((H.length : Int) != 8) = true := by rw [bne_iff_ne]; omega
      have R := Lib.hid (HF.out fun h => h8 h.len)
      clear h8
      go_wp2_with fail
      go_ret2
      exact ⟨_, _, rfl, R.out, HM.out.b⟩
  · have HV := Lib.hid (hV _ HM.out.b false (decide_eq_false c))
    have R := Lib.hid (show CheckC p q H false 2 from .inl ⟨c, rfl, rfl⟩)
    clear hV c
    go_enter Try.func29, Try.ntmps29
    go_upto_region 1 with fail
    rw [← Hw1.out, ← Hw2.out, ← Hbpe.out, ← Hbqe.out]
    clear Hw1 Hw2
    have g0 := aCell HM.out.p 0 rfl
    have g1 := aCell HM.out.p 1 rfl
    have g2 := aCell HM.out.q 0 rfl
    have g3 := aCell HM.out.q 1 rfl
    go_wp2_with fail
    refine HV.out.mono ?_
    rintro e w3 ⟨rfl, hb3⟩
    have HM := Lib.hid (HM.out.keep hb3)
    clear hb3 g0 g1 g2 g3
    go_wp2_with fail
    go_ret2
    exact ⟨_, _, rfl, R.out, HM.out.b⟩
#print axioms checkHom_any
end Go.Proofs.Ytfplmdieeabgpaa

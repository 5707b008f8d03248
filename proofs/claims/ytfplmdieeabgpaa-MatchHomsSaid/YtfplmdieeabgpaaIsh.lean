/- Contract of the reference's IsHom. -/
import Derived.Test.YtfplmdieeabgpaaPss
namespace Go.Proofs.Ytfplmdieeabgpaa
open Go.RowKit
set_option maxRecDepth 100000 in
set_option maxHeartbeats 16000000 in
theorem isHomR_any {p q : HQ} (hpq : PairV p q) (c : List Int) (v u x : Value) (w : World) (hv : Qr w v p) (hu : Qr w u q) (hx : Ints w x c) :
    Calls Try.prog 31 #[v, u, x] w fun e w' => ∃ B, e = .returned (.bool B) ∧ (B = true ↔ HomP p q c) ∧ Below w.heap.size w w' := by
  obtain ⟨hp, hq, hlen⟩ := hpq
  have Hq2 := Lib.hid hq
  classical
  obtain ⟨h0, b0, rfl, hh, hb⟩ := hv
  obtain ⟨h1, b1, rfl, hh1, hb1⟩ := hu
  have Hbq := Lib.hid hb1
  have Hx := Lib.hid hx
  obtain ⟨a3, b3, off3, cap3, rfl, hle3, hia3, hc3⟩ := Ints.get hh
  obtain ⟨a4, b4, off4, cap4, rfl, hle4, hia4, hc4⟩ := Ints.get hh1
  obtain ⟨a5, b5, off5, cap5, vs5, rfl, hle5, hia5, _, hc5⟩ := Atoms.get hb
  obtain ⟨ba1, bc1, rfl⟩ := atoms_slice hb1
  obtain ⟨xa, xb, xoff, xc, rfl, xle, xha, xhc⟩ := Ints.get hx
  have gd : ∀ (l : List Int) (i : Nat) (hi : i < l.length), l[i] = l.getD i 0 := fun l i hi => by rw [List.getD_eq_getElem?_getD, List.getElem?_eq_getElem hi]; rfl
  obtain ⟨n0, hn0⟩ : ∃ x, x = p.1.length := ⟨_, rfl⟩
  obtain ⟨n1, hn1⟩ : ∃ x, x = p.2.length := ⟨_, rfl⟩
  obtain ⟨n3, hn3⟩ : ∃ x, x = q.2.length := ⟨_, rfl⟩
  obtain ⟨m, hm⟩ : ∃ x, x = c.length := ⟨_, rfl⟩
  have hlen2 : q.1.length = n0 := by rw [hn0]; exact hlen.symm
  have Hc3 := Lib.hid (show ∀ i, i < n0 → w.cell? ⟨b3, off3 + i, none⟩ = some (.int .i64 (p.1.getD i 0)) from fun i hi => by rw [hc3 i (by omega), gd])
  have Hc4 := Lib.hid (show ∀ i, i < n0 → w.cell? ⟨b4, off4 + i, none⟩ = some (.int .i64 (q.1.getD i 0)) from fun i hi => by rw [hc4 i (by omega), gd])
  have Hxc := Lib.hid (show ∀ i, i < m → w.cell? ⟨xb, xoff + i, none⟩ = some (.int .i64 (c.getD i 0)) from fun i hi => by rw [xhc i (by omega), gd])
  rw [← hn1] at hia5 hc5 hle5
  have Hc5 := Lib.hid hc5
  rw [← hn0] at hia3 hle3
  rw [hlen2] at hia4 hle4
  rw [← hn3] at Hbq
  rw [← hm] at xha xle Hx
  rw [← hn0, ← hn1, hlen2, ← hn3, ← hm]
  have Hi3 := Lib.hid (run_ix (P := Try.prog) (t := 22) (a := a3) (len := n0) (cap := cap3) (b := b3) (off := off3) (s := 1) Try.underlying22 (by intro w; kernel_rfl) hia3)
  have Hi4 := Lib.hid (run_ix (P := Try.prog) (t := 22) (a := a4) (len := n0) (cap := cap4) (b := b4) (off := off4) (s := 1) Try.underlying22 (by intro w; kernel_rfl) hia4)
  have Hi5 := Lib.hid (run_ix (P := Try.prog) (t := 23) (a := a5) (len := n1) (cap := cap5) (b := b5) (off := off5) (s := 2) Try.underlying23 (by intro w; kernel_rfl) hia5)
  have Hix := Lib.hid (run_ix (P := Try.prog) (t := 22) (a := xa) (len := m) (cap := xc) (b := xb) (off := xoff) (s := 1) Try.underlying22 (by intro w; kernel_rfl) xha)
  simp only [Nat.mul_one] at Hi3 Hi4 Hix
  have Hp := Lib.hid hp
  have Hn0 := Lib.hid hn0
  have Hn1 := Lib.hid hn1
  have Hm := Lib.hid hm
  have Hl2 := Lib.hid hlen2
  have hn04 : n0 ≤ 4 := by rw [hn0]; exact hp.1.2.2
  have hn15 : n1 ≤ 5 := by rw [hn1]; exact hp.1.2.1
  have HA := Lib.hid (show ∀ k, k < n1 → (∀ t, t ∈ aA p.2 k → -9 ≤ t ∧ t ≤ 7) ∧ (aA p.2 k).length ≤ 3 from fun k hk => by have h := hp.2.1 k (by rw [← hn1]; exact hk); exact ⟨h.2.2, h.2.1.2⟩)
  have HV := Lib.hid (show ∀ k, k < n0 → 0 ≤ p.1.getD k 0 ∧ p.1.getD k 0 < 8 from fun k hk => by have := head_occ hp (k := k) (by rw [← hn0]; exact hk); exact ⟨this.1, this.2.1⟩)
  obtain ⟨w1, hw1⟩ : ∃ x, x = w.alloc (.cells #[.slice a3 n0 cap3, .slice a5 n1 cap5] 25) := ⟨_, rfl⟩
  obtain ⟨w2, hw2⟩ : ∃ x, x = w1.alloc (.cells #[.slice a4 n0 cap4, .slice ba1 n3 bc1] 25) := ⟨_, rfl⟩
  obtain ⟨bp, hbp⟩ : ∃ x, x = w.heap.size := ⟨_, rfl⟩
  obtain ⟨bq, hbq⟩ : ∃ x, x = bp + 1 := ⟨_, rfl⟩
  have HB := Lib.hid (B2.new hw1 hw2 hbp hbq)
  have Hw1 := Lib.hid hw1
  have Hw2 := Lib.hid hw2
  have Hbpe := Lib.hid hbp
  have Hbqe := Lib.hid hbq
  have Hbp5 := Lib.hid hb
  clear hh hb hh1 hb1 hx hw1 hw2 hbp hbq hc3 hc4 hc5 xhc hia3 hia4 hia5 xha gd hn0 hn1 hn3 hm hp hq hlen hlen2
  have HNo := Lib.hid (fun (h : ¬ HomP p q c) => show (false = true ↔ HomP p q c) from ⟨fun k => (by cases k), fun k => absurd k h⟩)
  by_cases hm8 : m = 8
  · subst hm8
    clear xle
    have Hall := Lib.hid (fun w' (hw : Below w.heap.size w w') => allR_any p.2 (fun i hi t ht => ((HA.out i (by rw [Hn1.out]; exact hi)).1 t ht).2) (.slice a3 n0 cap3) _ w' (Hbp5.out.keep hw))
    rw [← Hn1.out] at Hall
    obtain ⟨V, hV⟩ : ∃ V, V = vsQ p.2 := ⟨_, rfl⟩
    have HVb := Lib.hid (fun i => show V.testBit i = true ↔ i < 8 ∧ occ p.2 i from by rw [hV]; exact vsQ_bit p.2 i)
    have HV256 : V < 256 := by rw [hV]; exact vsB_lt _ _
    rw [← hV] at Hall
    clear hV
    go_enter Try.func31, Try.ntmps31
    go_upto_region 1 with fail
    rw [← Hw1.out, ← Hw2.out, ← Hbpe.out, ← Hbqe.out]
    clear Hw1 Hw2
    go_wp2_with fail
    go_loopw [19] (fun vi wr => ∃ k : Nat, vi = .int .i64 k ∧ k ≤ 8 ∧ Below w2.heap.size w2 wr ∧ ∀ j, j < k → if occ p.2 j then -9 ≤ c.getD j 0 ∧ c.getD j 0 ≤ 7 else c.getD j 0 = 99) (fun vi _ => 8 - (intOf vi).toNat)
    case atStart => exact ⟨0, rfl, Nat.zero_le _, Below.refl _ _, fun j h => by omega⟩
    case round =>
      generalize wr = wx at *
      obtain ⟨k, rfl, hk, hb, hno⟩ := hrel
      have Hb := Lib.hid hb
      have Hno := Lib.hid hno
      clear hb hno
      by_cases hlt : k < 8
      · have hcx := Below.keep (Below.tr HB.out.b Hb.out) (Hxc.out k hlt)
        have hixk := Hix.out k
        have HBx := Lib.hid (HB.out.keep Hb.out)
        obtain ⟨⟨g0, g1⟩, g2, g3⟩ := HBx.out.cells
        obtain ⟨X, hX⟩ : ∃ X, X = c.getD k 0 := ⟨_, rfl⟩
        have HX := Lib.hid hX
        rw [← hX] at hcx
        clear hX
        have HAl := Lib.hid (Hall.out wx HBx.out.b)
        have HS := Lib.hid (fun (h : if occ p.2 k then -9 ≤ X ∧ X ≤ 7 else X = 99) => show ∀ j, j < k + 1 → if occ p.2 j then -9 ≤ c.getD j 0 ∧ c.getD j 0 ≤ 7 else c.getD j 0 = 99 from fun j hj => by
          rcases Nat.lt_or_ge j k with h1 | h1
          · exact Hno.out j h1
          · rw [show j = k by omega, ← HX.out]; exact h)
        have hn0 : (0 : Int) ≤ (k : Int) := by omega
        have hn64 : (k : Int) < 64 := by omega
        by_cases h2 : V.testBit k = true
        · have H2 := Lib.hid h2
          have Hocc := Lib.hid ((HVb.out k).1 h2).2
          clear h2
          by_cases ht : -9 ≤ X ∧ X ≤ 7
          · have HR := Lib.hid (HS.out (by rw [if_pos Hocc.out]; exact ht))
            have HTm := Lib.hid (fun w => termR_any X true (decide_eq_true ht) w)
            clear ht
            go_wp2_with fail
            refine HAl.out.mono ?_
            rintro e w3 ⟨rfl, hb3⟩
            have Hb3 := Lib.hid (Below.tr Hb.out hb3)
            clear hb3 g0 g1 g2 g3 hcx
            have t1 := qshr_bit V k (by omega)
            obtain ⟨P, hP, p1, p2, p3⟩ := qpow_name k (by omega)
            rw [p1] at t1
            first | rw [if_pos H2.out] at t1 | rw [if_neg H2.out] at t1
            clear hP
            go_wp2_with fail
            refine (HTm.out _).mono ?_
            rintro e w4 ⟨rfl, rfl⟩
            go_wp2_with fail
            go_roundw
            case rel => exact ⟨k + 1, by go_num, by omega, Hb3.out, HR.out⟩
            case measure => simp [intOf]; omega
          · have HR := Lib.hid (HNo.out fun H => ht (by
              obtain ⟨a, ha, h1⟩ := H.term Hocc.out
              rw [HX.out]; exact qrV_arg Hq2.out ha _ h1))
            have HTm := Lib.hid (fun w => termR_any X false (decide_eq_false ht) w)
            clear ht
            go_wp2_with fail
            refine HAl.out.mono ?_
            rintro e w3 ⟨rfl, hb3⟩
            have Hb3 := Lib.hid (Below.tr HBx.out.b hb3)
            clear hb3 g0 g1 g2 g3 hcx
            have t1 := qshr_bit V k (by omega)
            obtain ⟨P, hP, p1, p2, p3⟩ := qpow_name k (by omega)
            rw [p1] at t1
            first | rw [if_pos H2.out] at t1 | rw [if_neg H2.out] at t1
            clear hP
            go_wp2_with fail
            refine (HTm.out _).mono ?_
            rintro e w4 ⟨rfl, rfl⟩
            go_wp2_with fail
            go_ret
            exact ⟨false, rfl, HR.out, Hb3.out⟩
        · have H2 := Lib.hid h2
          have Hocc := Lib.hid (show ¬ occ p.2 k from fun h => h2 ((HVb.out k).2 ⟨hlt, h⟩))
          clear h2
          by_cases ht : X = 99
          · have hne : (X != 99) = false := by rw [bne_eq_false_iff_eq]; exact ht
            have HR := Lib.hid (HS.out (by rw [if_neg Hocc.out]; exact ht))
            clear ht
            go_wp2_with fail
            refine HAl.out.mono ?_
            rintro e w3 ⟨rfl, hb3⟩
            have Hb3 := Lib.hid (Below.tr Hb.out hb3)
            clear hb3 g0 g1 g2 g3 hcx
            have t1 := qshr_bit V k (by omega)
            obtain ⟨P, hP, p1, p2, p3⟩ := qpow_name k (by omega)
            rw [p1] at t1
            first | rw [if_pos H2.out] at t1 | rw [if_neg H2.out] at t1
            clear hP
            go_wp2_with fail
            go_roundw
            case rel => exact ⟨k + 1, by go_num, by omega, Hb3.out, HR.out⟩
            case measure => simp [intOf]; omega
          · have hne : (X != 99) = true := by rw [bne_iff_ne]; exact ht
            have HR := Lib.hid (HNo.out fun H => ht (by rw [HX.out]; exact H.out k hlt Hocc.out))
            clear ht
            go_wp2_with fail
            refine HAl.out.mono ?_
            rintro e w3 ⟨rfl, hb3⟩
            have Hb3 := Lib.hid (Below.tr HBx.out.b hb3)
            clear hb3 g0 g1 g2 g3 hcx
            have t1 := qshr_bit V k (by omega)
            obtain ⟨P, hP, p1, p2, p3⟩ := qpow_name k (by omega)
            rw [p1] at t1
            first | rw [if_pos H2.out] at t1 | rw [if_neg H2.out] at t1
            clear hP
            go_wp2_with fail
            go_ret
            exact ⟨false, rfl, HR.out, Hb3.out⟩
      · obtain rfl : k = 8 := by omega
        have HF := Lib.hid Hno.out
        have HB := Lib.hid (HB.out.keep Hb.out)
        clear Hno
        obtain ⟨⟨g0, g1⟩, g2, g3⟩ := HB.out.cells
        go_wp2_with fail
        clear g0 g1 g2 g3
        generalize wx = w2 at *
        go_loopw [48] (fun vi wr => ∃ k : Nat, vi = .int .i64 k ∧ k ≤ n1 ∧ Below w2.heap.size w2 wr ∧ ∀ j, j < k → (aR p.2 j, (aA p.2 j).map (app c)) ∈ q.2) (fun vi _ => n1 - (intOf vi).toNat)
        case atStart => exact ⟨0, rfl, Nat.zero_le _, Below.refl _ _, fun j h => by omega⟩
        case round =>
          generalize wr = wx at *
          clear Hb
          obtain ⟨k, rfl, hk, hb, hno⟩ := hrel
          have Hb := Lib.hid hb
          have Hno := Lib.hid hno
          clear hb hno
          by_cases hlt : k < n1
          · have hc1 := Below.keep (Below.tr HB.out.b Hb.out) (Hc5.out k hlt).1
            have hc2 := Below.keep (Below.tr HB.out.b Hb.out) (Hc5.out k hlt).2.1
            have hi := Ints.keep (Hc5.out k hlt).2.2 (Below.tr HB.out.b Hb.out)
            have hixk := Hi5.out k
            have HA7 := Lib.hid (HA.out k hlt)
            obtain ⟨ua, uc, hua⟩ := ints_slice hi
            rw [hua] at hc2 hi
            clear hua
            obtain ⟨r, hr⟩ : ∃ t, t = aR p.2 k := ⟨_, rfl⟩
            obtain ⟨A, hA⟩ : ∃ t, t = aA p.2 k := ⟨_, rfl⟩
            have Hr := Lib.hid hr
            have HAe := Lib.hid hA
            rw [← hr] at hc1
            rw [← hA] at hc2 hi HA7
            clear hr hA
            obtain ⟨un, hun⟩ : ∃ x, x = A.length := ⟨_, rfl⟩
            rw [← hun] at hc2 hi
            obtain ⟨wn, hwn⟩ : ∃ x, x = wx.alloc (.cells #[.int .i64 r, .slice ua un uc] 80) := ⟨_, rfl⟩
            have kn : Below wx.heap.size wx wn := by rw [hwn]; exact below_alloc _ _
            obtain ⟨bA, hbA⟩ : ∃ x, x = wx.heap.size := ⟨_, rfl⟩
            have HAt := Lib.hid (show AtR wn bA r (.slice ua un uc) from by rw [hbA, hwn]; exact heap_alloc_new _ _)
            have HBn := Lib.hid (HB.out.keep (Below.tr Hb.out kn))
            have Hbn := Lib.hid (Below.tr Hb.out kn)
            have HIk := Lib.hid (hi.keep kn)
            have Hwn := Lib.hid hwn
            have HbA := Lib.hid hbA
            clear hwn kn hbA hi hun
            obtain ⟨D, hD⟩ : ∃ D, D = decide ((r, A.map (app c)) ∈ q.2) := ⟨_, rfl⟩
            have HD := Lib.hid hD.symm
            clear hD
            have HG := Lib.hid (show ∀ t, t ∈ A → t < c.length from fun t ht => by rw [← Hm.out]; have := (HA7.out.1 t ht).2; omega)
            go_upto_region 13 with fail
            rw [← Hwn.out, ← HbA.out]
            clear Hwn hc1 hc2 hixk
            try simp only [Act.put]
            go_cut [57] (fun o1 wc => o1 = .bool (!D) ∧ Below wn.heap.size wn wc)
            case first =>
              have HS0 := Lib.hid (show Bx wn.drew bq (.slice a4 n0 cap4) (.slice ba1 n3 bc1) ∧ AtR wn.drew bA r (.slice ua un uc) from ⟨HBn.out.q, HAt.out⟩)
              have Hw0 := Lib.hid (show Below w.heap.size w wn.drew from HBn.out.b.drew)
              have HW0 := Lib.hid (show Below wn.heap.size wn wn.drew from (Below.refl _ _).drew)
              refine wp_region_held (S := fun w' => Bx w' bq (.slice a4 n0 cap4) (.slice ba1 n3 bc1) ∧ AtR w' bA r (.slice ua un uc)) wideK ?_
              change wpAnyH _ _ _ _ _ _ _ _ (World.drew _)
              generalize wn.drew = wd0 at *
              refine wpAnyH_take (i := 0) (v := ?_) rfl (by kernel_rfl) (by kernel_rfl) (by kernel_rfl) (fun _ _ _ h => h) (Or.inl ⟨by rfl, ?_⟩) HS0.out ?_
              rotate_left
              focus (intro w hS; have s0 := aCell hS.1 0 rfl; have s1 := aCell hS.1 1 rfl; clear hS; first | (go_simp; done) | (go_simp; with_reducible rfl))
              simp only [Act.put, List.getElem_toArray, List.getElem_cons_zero, List.setIfInBounds_toArray, List.set_cons_zero, List.set_cons_succ]
              refine wpAnyH_take (i := 1) (v := ?_) rfl (by kernel_rfl) (by kernel_rfl) (by kernel_rfl) (fun _ _ _ h => h) (Or.inl ⟨by rfl, ?_⟩) HS0.out ?_
              rotate_left
              focus (intro w hS; have s0 := aCell hS.2 0 rfl; have s1 := aCell hS.2 1 rfl; clear hS; first | (go_simp; done) | (go_simp; with_reducible rfl))
              simp only [Act.put, List.getElem_toArray, List.getElem_cons_zero, List.getElem_cons_succ, List.setIfInBounds_toArray, List.set_cons_zero, List.set_cons_succ]
              refine wpAnyH_take (i := 2) (v := ?_) rfl (by kernel_rfl) (by kernel_rfl) (by kernel_rfl) (fun _ _ _ h => h) (Or.inl ⟨by rfl, ?_⟩) HS0.out ?_
              rotate_left
              focus (intro w hS; clear hS; first | (go_simp; done) | (go_simp; with_reducible rfl))
              simp only [Act.put, List.getElem_toArray, List.getElem_cons_zero, List.getElem_cons_succ, List.setIfInBounds_toArray, List.set_cons_zero, List.set_cons_succ]
              refine wpAnyH_ready (rs := [3]) (by kernel_rfl) (by simp) ?_
              refine RdyH.cons rfl (fun K2 hK => ?_) RdyH.nil
              go_simp
              go_at_call 81
              refine (imageR_any r A c HG.out (by have := HA7.out.2; omega) _ _ _ (HIk.out.keep HW0.out) (Hx.out.keep Hw0.out)).mono ?_
              rintro e wd1 ⟨ia, inn, ik, rfl, him, hb⟩
              have HS1 := Lib.hid (And.intro (Bx.keep HS0.out.1 hb) (AtR.keep HS0.out.2 hb))
              have Hw1 := Lib.hid (Below.tr Hw0.out hb)
              have HW1 := Lib.hid (Below.tr HW0.out hb)
              have HIm := Lib.hid him
              clear him hb
              go_simp
              refine hK _ _ HS1.out ?_
              clear hK K2
              refine wpAnyH_ready (rs := [4]) (by kernel_rfl) (by simp) ?_
              refine RdyH.cons rfl (fun K2 hK => ?_) RdyH.nil
              go_simp
              go_at_call 80
              refine (hasR_any r (A.map (app c)) q.2 _ _ _ _ (Hbq.out.keep Hw1.out) HIm.out D HD.out).mono ?_
              rintro e wd2 ⟨rfl, hb⟩
              have HS2 := Lib.hid (And.intro (Bx.keep HS1.out.1 hb) (AtR.keep HS1.out.2 hb))
              have Hw2 := Lib.hid (Below.tr Hw1.out hb)
              have HW2 := Lib.hid (Below.tr HW1.out hb)
              clear hb
              go_simp
              refine hK _ _ HS2.out ?_
              clear hK K2
              refine wpAnyH_take (i := 5) (v := ?_) rfl (by kernel_rfl) (by kernel_rfl) (by kernel_rfl) (fun _ _ _ h => h) (Or.inl ⟨by rfl, ?_⟩) HS2.out ?_
              rotate_left
              focus (intro w hS; clear hS; first | (go_simp; done) | (go_simp; with_reducible rfl))
              simp only [Act.put, List.getElem_toArray, List.getElem_cons_zero, List.getElem_cons_succ, List.setIfInBounds_toArray, List.set_cons_zero, List.set_cons_succ]
              refine wpAnyH_done (by kernel_rfl) ?_ _
              go_wp2_with fail
              go_meet
              exact ⟨rfl, HW2.out⟩
            case rest =>
              obtain ⟨rfl, hb⟩ := hcut
              have Hc0 := Lib.hid (Below.tr Hbn.out hb)
              have HBc := Lib.hid (HBn.out.keep hb)
              clear hb
              cases D
              · have HN := Lib.hid (HNo.out fun h => by
                  have h1 := h.img (aR p.2 k, aA p.2 k) (by have h : k < p.2.length := by rw [← Hn1.out]; exact hlt
                                                            rw [← at_get h]; exact List.getElem_mem h)
                  rw [← Hr.out, ← HAe.out] at h1
                  exact absurd h1 (of_decide_eq_false HD.out))
                go_wp2_with fail
                go_ret
                exact ⟨false, rfl, HN.out, HBc.out.b⟩
              · have HN := Lib.hid (show ∀ j, j < k + 1 → (aR p.2 j, (aA p.2 j).map (app c)) ∈ q.2 from fun j hj => by
                  rcases Nat.lt_or_ge j k with h1 | h1
                  · exact Hno.out j h1
                  · rw [show j = k by omega, ← Hr.out, ← HAe.out]; exact of_decide_eq_true HD.out)
                go_wp2_with fail
                go_roundw
                case rel => exact ⟨k + 1, by go_num, by omega, Hc0.out, HN.out⟩
                case measure => simp [intOf]; omega
          · obtain rfl : k = n1 := by omega
            have HBx := Lib.hid (HB.out.keep Hb.out)
            obtain ⟨⟨g0, g1⟩, g2, g3⟩ := HBx.out.cells
            go_wp2_with fail
            clear g0 g1 g2 g3
            go_loopw [62] (fun vi wz => ∃ k : Nat, vi = .int .i64 k ∧ k ≤ n0 ∧ Below wx.heap.size wx wz ∧ ∀ j, j < k → c.getD (p.1.getD j 0).toNat 0 = q.1.getD j 0) (fun vi _ => n0 - (intOf vi).toNat)
            case atStart => exact ⟨0, rfl, Nat.zero_le _, Below.refl _ _, fun j h => by omega⟩
            case round =>
              generalize wr = wz at *
              obtain ⟨j, rfl, hj, hb, hno2⟩ := hrel
              have Hz := Lib.hid hb
              have Hno2 := Lib.hid hno2
              have HBz := Lib.hid (HBx.out.keep hb)
              clear hb hno2
              by_cases hlj : j < n0
              · have hcj := Below.keep HBz.out.b (Hc3.out j hlj)
                have hcq := Below.keep HBz.out.b (Hc4.out j hlj)
                have hixj := Hi3.out j
                have hixq := Hi4.out j
                obtain ⟨h1, h2⟩ := HV.out j hlj
                obtain ⟨t, ht⟩ : ∃ t : Nat, (t : Int) = p.1.getD j 0 := ⟨_, Int.toNat_of_nonneg h1⟩
                have HT := Lib.hid ht
                rw [← ht] at hcj h2
                clear ht h1
                obtain ⟨⟨g0, g1⟩, g2, g3⟩ := HBz.out.cells
                obtain ⟨Q, hQ⟩ : ∃ Q, Q = q.1.getD j 0 := ⟨_, rfl⟩
                have HQ := Lib.hid hQ
                rw [← hQ] at hcq
                clear hQ
                have g : t < 8 := by omega
                have hct := Below.keep HBz.out.b (Hxc.out t g)
                have hixt := Hix.out t
                obtain ⟨C, hC⟩ : ∃ C, C = c.getD t 0 := ⟨_, rfl⟩
                have HC := Lib.hid hC
                rw [← hC] at hct
                clear hC
                by_cases e : C = Q
                · have hne : (C != Q) = false := by rw [bne_eq_false_iff_eq]; exact e
                  have HN := Lib.hid (show ∀ i, i < j + 1 → c.getD (p.1.getD i 0).toNat 0 = q.1.getD i 0 from fun i hi => by
                    rcases Nat.lt_or_ge i j with h1 | h1
                    · exact Hno2.out i h1
                    · rw [show i = j by omega, ← HT.out, Int.toNat_natCast, ← HC.out, ← HQ.out]; exact e)
                  clear e
                  go_upto_region 19 with fail
                  go_quiet (fail)
                  go_wp2_with fail
                  go_roundw
                  case rel => exact ⟨j + 1, by go_num, by omega, Below.tr Hz.out (drewB' _), HN.out⟩
                  case measure => simp [intOf]; omega
                · have hne : (C != Q) = true := by rw [bne_iff_ne]; exact e
                  have HN := Lib.hid (HNo.out fun h => e (by
                    have h1 := h.hd j (by rw [← Hn0.out]; exact hlj)
                    rw [← HT.out, Int.toNat_natCast, ← HC.out, ← HQ.out] at h1; exact h1))
                  clear e
                  go_upto_region 19 with fail
                  go_quiet (fail)
                  go_wp2_with fail
                  go_ret
                  exact ⟨false, rfl, HN.out, Below.tr HBz.out.b (drewB' _)⟩
              · obtain rfl : j = n0 := by omega
                have HN := Lib.hid (show HomP p q c from ⟨Hm.out.symm, fun a ha => by
                  obtain ⟨i, hi, rfl⟩ := List.getElem_of_mem ha
                  rw [at_get hi]
                  exact Hno.out i (by rw [Hn1.out]; exact hi), fun i hi ho => by
                  have := HF.out i hi
                  rwa [if_neg ho] at this, fun i hi => Hno2.out i (by rw [Hn0.out]; exact hi)⟩)
                go_wp2_with fail
                go_ret
                exact ⟨true, rfl, ⟨fun _ => HN.out, fun _ => rfl⟩, HBz.out.b⟩
  · have hne : ((m : Int) != 8) = true := by rw [bne_iff_ne]; omega
    have HN := Lib.hid (HNo.out fun h => hm8 (Hm.out.trans h.len))
    clear hm8
    go_enter Try.func31, Try.ntmps31
    go_upto_region 1 with fail
    rw [← Hw1.out, ← Hw2.out, ← Hbpe.out, ← Hbqe.out]
    clear Hw1 Hw2
    go_wp2_with fail
    go_ret
    exact ⟨false, rfl, HN.out, HB.out.b⟩
#print axioms isHomR_any
end Go.Proofs.Ytfplmdieeabgpaa

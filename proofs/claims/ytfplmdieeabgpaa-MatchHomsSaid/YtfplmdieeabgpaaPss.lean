/- Contracts of the reference's possible and IsHom. -/
import Derived.Test.YtfplmdieeabgpaaTrh
import Derived.Test.YtfplmdieeabgpaaImg
import Derived.Test.YtfplmdieeabgpaaRq
import Derived.Test.YtfplmdieeabgpaaQx
namespace Go.Proofs.Ytfplmdieeabgpaa
open Go.RowKit
/-- a box of an atom of the reference -/
def AtR (w : World) (b : Nat) (r : Int) (x : Value) : Prop := w.heap[b]? = some (.cells #[.int .i64 r, x] 80 (0, 0))
theorem AtR.keep {w w' : World} {b : Nat} {r : Int} {x : Value} (h : AtR w b r x) (hb : Below w.heap.size w w') : AtR w' b r x := blk_keep2 h hb
theorem div_zero_iff {V P : Nat} (_ : 0 < P) : ((V : Int) / (P : Int) == 0) = decide (V / P = 0) := by
  rw [show ((V : Int) / (P : Int)) = ((V / P : Nat) : Int) by simp]
  by_cases c : V / P = 0
  · rw [c]; rfl
  · rw [decide_eq_false c]; rw [beq_eq_false_iff_ne]; omega
theorem drewB' (w : World) {n : Nat} : Below w.heap.size w (w.drewN n) := ⟨rfl, rfl, rfl, Nat.le_refl _, fun _ _ => rfl⟩
set_option maxRecDepth 100000 in
set_option maxHeartbeats 16000000 in
theorem possR_any {p q : HQ} (hpq : PairV p q) (c : List Int) (hc8 : c.length ≤ 8) (v u x : Value) (w : World) (hv : Qr w v p) (hu : Qr w u q) (hx : Ints w x c) :
    Calls Try.prog 111 #[v, u, x] w fun e w' => ∃ B, e = .returned (.bool B) ∧ (B = true ↔ Poss p q c) ∧ Below w.heap.size w w' := by
  obtain ⟨hp, hq, hlen⟩ := hpq
  obtain ⟨h0, b0, rfl, hh, hb⟩ := hv
  obtain ⟨h1, b1, rfl, hh1, hb1⟩ := hu
  have Hbq := Lib.hid hb1
  have Hx := Lib.hid hx
  obtain ⟨a3, b3, off3, cap3, rfl, hle3, hia3, hc3⟩ := Ints.get hh
  obtain ⟨a4, b4, off4, cap4, rfl, hle4, hia4, hc4⟩ := Ints.get hh1
  obtain ⟨a5, b5, off5, cap5, vs5, rfl, hle5, hia5, _, hc5⟩ := Atoms.get hb
  obtain ⟨ba1, bc1, rfl⟩ := atoms_slice hb1
  obtain ⟨xa, xb, xoff, xc, rfl, xle, xha, xhc⟩ := Ints.get hx
  have gd : ∀ (l : List Int) (i : Nat) (hi : i < l.length), l[i] = l.getD i 0 := fun l i hi => by rw [List.getD_eq_getElem?_getD, List.getElem?_eq_getElem hi]; rfl
  obtain ⟨n0, hn0⟩ : ∃ x, x = p.1.length := ⟨_, rfl⟩
  obtain ⟨n1, hn1⟩ : ∃ x, x = p.2.length := ⟨_, rfl⟩
  obtain ⟨n3, hn3⟩ : ∃ x, x = q.2.length := ⟨_, rfl⟩
  obtain ⟨m, hm⟩ : ∃ x, x = c.length := ⟨_, rfl⟩
  have hlen2 : q.1.length = n0 := by rw [hn0]; exact hlen.symm
  have Hc3 := Lib.hid (show ∀ i, i < n0 → w.cell? ⟨b3, off3 + i, none⟩ = some (.int .i64 (p.1.getD i 0)) from fun i hi => by rw [hc3 i (by omega), gd])
  have Hc4 := Lib.hid (show ∀ i, i < n0 → w.cell? ⟨b4, off4 + i, none⟩ = some (.int .i64 (q.1.getD i 0)) from fun i hi => by rw [hc4 i (by omega), gd])
  have Hxc := Lib.hid (show ∀ i, i < m → w.cell? ⟨xb, xoff + i, none⟩ = some (.int .i64 (c.getD i 0)) from fun i hi => by rw [xhc i (by omega), gd])
  rw [← hn1] at hia5 hc5 hle5
  have Hc5 := Lib.hid hc5
  rw [← hn0] at hia3 hle3
  rw [hlen2] at hia4 hle4
  rw [← hn3] at Hbq
  rw [← hm] at xha xle Hx
  rw [← hn0, ← hn1, hlen2, ← hn3, ← hm]
  have Hi3 := Lib.hid (run_ix (P := Try.prog) (t := 22) (a := a3) (len := n0) (cap := cap3) (b := b3) (off := off3) (s := 1) Try.underlying22 (by intro w; kernel_rfl) hia3)
  have Hi4 := Lib.hid (run_ix (P := Try.prog) (t := 22) (a := a4) (len := n0) (cap := cap4) (b := b4) (off := off4) (s := 1) Try.underlying22 (by intro w; kernel_rfl) hia4)
  have Hi5 := Lib.hid (run_ix (P := Try.prog) (t := 23) (a := a5) (len := n1) (cap := cap5) (b := b5) (off := off5) (s := 2) Try.underlying23 (by intro w; kernel_rfl) hia5)
  have Hix := Lib.hid (run_ix (P := Try.prog) (t := 22) (a := xa) (len := m) (cap := xc) (b := xb) (off := xoff) (s := 1) Try.underlying22 (by intro w; kernel_rfl) xha)
  simp only [Nat.mul_one] at Hi3 Hi4 Hix
  have Hp := Lib.hid hp
  have Hn0 := Lib.hid hn0
  have Hn1 := Lib.hid hn1
  have Hm := Lib.hid hm
  have Hl2 := Lib.hid hlen2
  have hm8 : m ≤ 8 := by rw [hm]; exact hc8
  have hn04 : n0 ≤ 4 := by rw [hn0]; exact hp.1.2.2
  have hn15 : n1 ≤ 5 := by rw [hn1]; exact hp.1.2.1
  have HA := Lib.hid (show ∀ k, k < n1 → (∀ t, t ∈ aA p.2 k → -9 ≤ t ∧ t ≤ 7) ∧ (aA p.2 k).length ≤ 3 from fun k hk => by have h := hp.2.1 k (by rw [← hn1]; exact hk); exact ⟨h.2.2, h.2.1.2⟩)
  have HV := Lib.hid (show ∀ k, k < n0 → 0 ≤ p.1.getD k 0 ∧ p.1.getD k 0 < 8 from fun k hk => by have := head_occ hp (k := k) (by rw [← hn0]; exact hk); exact ⟨this.1, this.2.1⟩)
  obtain ⟨w1, hw1⟩ : ∃ x, x = w.alloc (.cells #[.slice a3 n0 cap3, .slice a5 n1 cap5] 25) := ⟨_, rfl⟩
  obtain ⟨w2, hw2⟩ : ∃ x, x = w1.alloc (.cells #[.slice a4 n0 cap4, .slice ba1 n3 bc1] 25) := ⟨_, rfl⟩
  obtain ⟨bp, hbp⟩ : ∃ x, x = w.heap.size := ⟨_, rfl⟩
  obtain ⟨bq, hbq⟩ : ∃ x, x = bp + 1 := ⟨_, rfl⟩
  have HB := Lib.hid (B2.new hw1 hw2 hbp hbq)
  have Hw1 := Lib.hid hw1
  have Hw2 := Lib.hid hw2
  have Hbpe := Lib.hid hbp
  have Hbqe := Lib.hid hbq
  have Hbp5 := Lib.hid hb
  clear hh hb hh1 hb1 hx hw1 hw2 hbp hbq hc3 hc4 hc5 xhc hia3 hia4 hia5 xha gd hn0 hn1 hn3 hm hp hq hlen hlen2
  go_enter Try.func111, Try.ntmps111
  go_upto_region 1 with fail
  rw [← Hw1.out, ← Hw2.out, ← Hbpe.out, ← Hbqe.out]
  clear Hw1 Hw2
  obtain ⟨⟨g0, g1⟩, g2, g3⟩ := HB.out.cells
  go_wp2_with fail
  clear g0 g1 g2 g3
  go_loopw [14] (fun vi wr => ∃ k : Nat, vi = .int .i64 k ∧ k ≤ n1 ∧ Below w2.heap.size w2 wr ∧ ∀ j, j < k → (∀ t, t ∈ aA p.2 j → t < m) → (aR p.2 j, (aA p.2 j).map (app c)) ∈ q.2) (fun vi _ => n1 - (intOf vi).toNat)
  case atStart => exact ⟨0, rfl, Nat.zero_le _, Below.refl _ _, fun j h => by omega⟩
  case round =>
    generalize wr = wx at *
    obtain ⟨k, rfl, hk, hb, hno⟩ := hrel
    have Hb := Lib.hid hb
    have Hno := Lib.hid hno
    clear hb hno
    by_cases hlt : k < n1
    · have hc1 := Below.keep (Below.tr HB.out.b Hb.out) (Hc5.out k hlt).1
      have hc2 := Below.keep (Below.tr HB.out.b Hb.out) (Hc5.out k hlt).2.1
      have hi := Ints.keep (Hc5.out k hlt).2.2 (Below.tr HB.out.b Hb.out)
      have hixk := Hi5.out k
      have HA7 := Lib.hid (HA.out k hlt)
      obtain ⟨ua, uc, hua⟩ := ints_slice hi
      rw [hua] at hc2 hi
      clear hua
      obtain ⟨r, hr⟩ : ∃ t, t = aR p.2 k := ⟨_, rfl⟩
      obtain ⟨A, hA⟩ : ∃ t, t = aA p.2 k := ⟨_, rfl⟩
      have Hr := Lib.hid hr
      have HAe := Lib.hid hA
      rw [← hr] at hc1
      rw [← hA] at hc2 hi HA7
      clear hr hA
      obtain ⟨un, hun⟩ : ∃ x, x = A.length := ⟨_, rfl⟩
      rw [← hun] at hc2 hi
      obtain ⟨wn, hwn⟩ : ∃ x, x = wx.alloc (.cells #[.int .i64 r, .slice ua un uc] 80) := ⟨_, rfl⟩
      have kn : Below wx.heap.size wx wn := by rw [hwn]; exact below_alloc _ _
      obtain ⟨bA, hbA⟩ : ∃ x, x = wx.heap.size := ⟨_, rfl⟩
      have HAt := Lib.hid (show AtR wn bA r (.slice ua un uc) from by rw [hbA, hwn]; exact heap_alloc_new _ _)
      have HBn := Lib.hid (HB.out.keep (Below.tr Hb.out kn))
      have Hbn := Lib.hid (Below.tr Hb.out kn)
      have HIk := Lib.hid (hi.keep kn)
      have Hwn := Lib.hid hwn
      have HbA := Lib.hid hbA
      clear hwn kn hbA hi hun
      obtain ⟨D, hD⟩ : ∃ D, D = decide ((r, A.map (app c)) ∈ q.2) := ⟨_, rfl⟩
      have HD := Lib.hid hD.symm
      clear hD
      by_cases g : ∀ t, t ∈ A → t < m
      · have HG := Lib.hid (show ∀ t, t ∈ A → t < c.length from by rw [← Hm.out]; exact g)
        have HG2 := Lib.hid g
        clear g
        go_upto_region 4 with fail
        rw [← Hwn.out, ← HbA.out]
        clear Hwn hc1 hc2 hixk
        try simp only [Act.put]
        go_cut [31] (fun o1 wc => o1 = .bool (!D) ∧ Below wn.heap.size wn wc)
        case first =>
          have HS0 := Lib.hid (show Bx wn.drew bq (.slice a4 n0 cap4) (.slice ba1 n3 bc1) ∧ AtR wn.drew bA r (.slice ua un uc) from ⟨HBn.out.q, HAt.out⟩)
          have Hw0 := Lib.hid (show Below w.heap.size w wn.drew from HBn.out.b.drew)
          have HW0 := Lib.hid (show Below wn.heap.size wn wn.drew from (Below.refl _ _).drew)
          refine wp_region_held (S := fun w' => Bx w' bq (.slice a4 n0 cap4) (.slice ba1 n3 bc1) ∧ AtR w' bA r (.slice ua un uc)) wideK ?_
          change wpAnyH _ _ _ _ _ _ _ _ (World.drew _)
          generalize wn.drew = wd0 at *
          refine wpAnyH_take (i := 0) (v := ?_) rfl (by kernel_rfl) (by kernel_rfl) (by kernel_rfl) (fun _ _ _ h => h) (Or.inl ⟨by rfl, ?_⟩) HS0.out ?_
          rotate_left
          focus (intro w hS; have s0 := aCell hS.2 0 rfl; have s1 := aCell hS.2 1 rfl; clear hS; first | (go_simp; done) | (go_simp; with_reducible rfl))
          simp only [Act.put, List.getElem_toArray, List.getElem_cons_zero, List.setIfInBounds_toArray, List.set_cons_zero, List.set_cons_succ]
          refine wpAnyH_take (i := 2) (v := ?_) rfl (by kernel_rfl) (by kernel_rfl) (by kernel_rfl) (fun _ _ _ h => h) (Or.inl ⟨by rfl, ?_⟩) HS0.out ?_
          rotate_left
          focus (intro w hS; clear hS; first | (go_simp; done) | (go_simp; with_reducible rfl))
          simp only [Act.put, List.getElem_toArray, List.getElem_cons_zero, List.getElem_cons_succ, List.setIfInBounds_toArray, List.set_cons_zero, List.set_cons_succ]
          refine wpAnyH_take (i := 3) (v := ?_) rfl (by kernel_rfl) (by kernel_rfl) (by kernel_rfl) (fun _ _ _ h => h) (Or.inl ⟨by rfl, ?_⟩) HS0.out ?_
          rotate_left
          focus (intro w hS; clear hS; first | (go_simp; done) | (go_simp; with_reducible rfl))
          simp only [Act.put, List.getElem_toArray, List.getElem_cons_zero, List.getElem_cons_succ, List.setIfInBounds_toArray, List.set_cons_zero, List.set_cons_succ]
          refine wpAnyH_ready (rs := [1]) (by kernel_rfl) (by simp) ?_
          refine RdyH.cons rfl (fun K2 hK => ?_) RdyH.nil
          go_simp
          go_at_call 94
          refine (varsR_any r A (fun t ht => (HA7.out.1 t ht).2) _ _ (HIk.out.keep HW0.out)).mono ?_
          rintro e wd1 ⟨rfl, hb⟩
          have HS1 := Lib.hid (And.intro (Bx.keep HS0.out.1 hb) (AtR.keep HS0.out.2 hb))
          have Hw1 := Lib.hid (Below.tr Hw0.out hb)
          have HW1 := Lib.hid (Below.tr HW0.out hb)
          clear hb
          obtain ⟨V, hV⟩ : ∃ V, V = vsA A := ⟨_, rfl⟩
          rw [← hV]
          have HVs := Lib.hid hV
          clear hV
          obtain ⟨P, hP, p1, p2, p3⟩ := qpow_name m (by omega)
          have hn0 : (0 : Int) ≤ (m : Int) := by omega
          have hn64 : (m : Int) < 64 := by omega
          have HV256 : V < 256 := by rw [HVs.out]; exact vsA_lt A
          have hdv := div_zero_iff (V := V) p3
          have hdz : decide (V / P = 0) = true := by rw [hP, HVs.out, ← Nat.shiftRight_eq_div_pow]; exact decide_eq_true ((vsA_shift (fun t ht => (HA7.out.1 t ht).2) m).2 HG2.out)
          rw [hdz] at hdv
          clear hP hdz
          go_simp
          refine hK _ _ HS1.out ?_
          clear hK K2
          refine wpAnyH_take (i := 4) (v := ?_) rfl (by kernel_rfl) (by kernel_rfl) (by kernel_rfl) (fun _ _ _ h => h) (Or.inl ⟨by rfl, ?_⟩) HS1.out ?_
          rotate_left
          focus (intro w hS; clear hS; first | (go_simp; done) | (go_simp; with_reducible rfl))
          simp only [Act.put, List.getElem_toArray, List.getElem_cons_zero, List.getElem_cons_succ, List.setIfInBounds_toArray, List.set_cons_zero, List.set_cons_succ]
          refine wpAnyH_take (i := 5) (v := ?_) rfl (by kernel_rfl) (by kernel_rfl) (by kernel_rfl) (fun _ _ _ h => h) (Or.inl ⟨by rfl, ?_⟩) HS1.out ?_
          rotate_left
          focus (intro w hS; clear hS; first | (go_simp; done) | (go_simp; with_reducible rfl))
          simp only [Act.put, List.getElem_toArray, List.getElem_cons_zero, List.getElem_cons_succ, List.setIfInBounds_toArray, List.set_cons_zero, List.set_cons_succ]
          refine wpAnyH_take (i := 6) (v := ?_) rfl (by kernel_rfl) (by kernel_rfl) (by kernel_rfl) (fun _ _ _ h => h) (Or.inl ⟨by rfl, ?_⟩) HS1.out ?_
          rotate_left
          focus (intro w hS; clear hS; first | (go_simp; done) | (go_simp; with_reducible rfl))
          simp only [Act.put, List.getElem_toArray, List.getElem_cons_zero, List.getElem_cons_succ, List.setIfInBounds_toArray, List.set_cons_zero, List.set_cons_succ]
          refine wpAnyH_take (i := 7) (v := ?_) rfl (by kernel_rfl) (by kernel_rfl) (by kernel_rfl) (fun _ _ _ h => h) (Or.inl ⟨by rfl, ?_⟩) HS1.out ?_
          rotate_left
          focus (intro w hS; have s0 := aCell hS.1 0 rfl; have s1 := aCell hS.1 1 rfl; clear hS; first | (go_simp; done) | (go_simp; with_reducible rfl))
          simp only [Act.put, List.getElem_toArray, List.getElem_cons_zero, List.getElem_cons_succ, List.setIfInBounds_toArray, List.set_cons_zero, List.set_cons_succ]
          refine wpAnyH_take (i := 8) (v := ?_) rfl (by kernel_rfl) (by kernel_rfl) (by kernel_rfl) (fun _ _ _ h => h) (Or.inl ⟨by rfl, ?_⟩) HS1.out ?_
          rotate_left
          focus (intro w hS; have s0 := aCell hS.2 0 rfl; have s1 := aCell hS.2 1 rfl; clear hS; first | (go_simp; done) | (go_simp; with_reducible rfl))
          simp only [Act.put, List.getElem_toArray, List.getElem_cons_zero, List.getElem_cons_succ, List.setIfInBounds_toArray, List.set_cons_zero, List.set_cons_succ]
          refine wpAnyH_take (i := 9) (v := ?_) rfl (by kernel_rfl) (by kernel_rfl) (by kernel_rfl) (fun _ _ _ h => h) (Or.inl ⟨by rfl, ?_⟩) HS1.out ?_
          rotate_left
          focus (intro w hS; clear hS; first | (go_simp; done) | (go_simp; with_reducible rfl))
          simp only [Act.put, List.getElem_toArray, List.getElem_cons_zero, List.getElem_cons_succ, List.setIfInBounds_toArray, List.set_cons_zero, List.set_cons_succ]
          refine wpAnyH_ready (rs := [10]) (by kernel_rfl) (by simp) ?_
          refine RdyH.cons rfl (fun K2 hK => ?_) RdyH.nil
          go_simp
          go_at_call 81
          refine (imageR_any r A c HG.out (by have := HA7.out.2; omega) _ _ _ (HIk.out.keep HW1.out) (Hx.out.keep Hw1.out)).mono ?_
          rintro e wd2 ⟨ia, inn, ik, rfl, him, hb⟩
          have HS2 := Lib.hid (And.intro (Bx.keep HS1.out.1 hb) (AtR.keep HS1.out.2 hb))
          have Hw2 := Lib.hid (Below.tr Hw1.out hb)
          have HW2 := Lib.hid (Below.tr HW1.out hb)
          have HIm := Lib.hid him
          clear him hb
          go_simp
          refine hK _ _ HS2.out ?_
          clear hK K2
          refine wpAnyH_ready (rs := [11]) (by kernel_rfl) (by simp) ?_
          refine RdyH.cons rfl (fun K2 hK => ?_) RdyH.nil
          go_simp
          go_at_call 80
          refine (hasR_any r (A.map (app c)) q.2 _ _ _ _ (Hbq.out.keep Hw2.out) HIm.out D HD.out).mono ?_
          rintro e wd3 ⟨rfl, hb⟩
          have HS3 := Lib.hid (And.intro (Bx.keep HS2.out.1 hb) (AtR.keep HS2.out.2 hb))
          have Hw3 := Lib.hid (Below.tr Hw2.out hb)
          have HW3 := Lib.hid (Below.tr HW2.out hb)
          clear hb
          go_simp
          refine hK _ _ HS3.out ?_
          clear hK K2
          refine wpAnyH_take (i := 12) (v := ?_) rfl (by kernel_rfl) (by kernel_rfl) (by kernel_rfl) (fun _ _ _ h => h) (Or.inl ⟨by rfl, ?_⟩) HS3.out ?_
          rotate_left
          focus (intro w hS; clear hS; first | (go_simp; done) | (go_simp; with_reducible rfl))
          simp only [Act.put, List.getElem_toArray, List.getElem_cons_zero, List.getElem_cons_succ, List.setIfInBounds_toArray, List.set_cons_zero, List.set_cons_succ]
          refine wpAnyH_take (i := 13) (v := ?_) rfl (by kernel_rfl) (by kernel_rfl) (by kernel_rfl) (fun _ _ _ h => h) (Or.inl ⟨by rfl, ?_⟩) HS3.out ?_
          rotate_left
          focus (intro w hS; clear hS; first | (go_simp; done) | (go_simp; with_reducible rfl))
          simp only [Act.put, List.getElem_toArray, List.getElem_cons_zero, List.getElem_cons_succ, List.setIfInBounds_toArray, List.set_cons_zero, List.set_cons_succ]
          refine wpAnyH_done (by kernel_rfl) ?_ _
          go_wp2_with fail
          go_meet
          exact ⟨rfl, HW3.out⟩
        case rest =>
          obtain ⟨rfl, hb⟩ := hcut
          have Hc0 := Lib.hid (Below.tr Hbn.out hb)
          have HBc := Lib.hid (HBn.out.keep hb)
          clear hb
          cases D
          · have HN := Lib.hid (show ¬ Poss p q c from fun h => by
              have h1 := h.img (aR p.2 k, aA p.2 k) (by have h : k < p.2.length := by rw [← Hn1.out]; exact hlt
                                                        rw [← at_get h]; exact List.getElem_mem h) (by rw [← HAe.out]; exact HG.out)
              rw [← Hr.out, ← HAe.out] at h1
              exact absurd h1 (of_decide_eq_false HD.out))
            go_wp2_with fail
            go_ret
            exact ⟨false, rfl, ⟨fun h => (by cases h), fun h => absurd h HN.out⟩, HBc.out.b⟩
          · have HN := Lib.hid (show ∀ j, j < k + 1 → (∀ t, t ∈ aA p.2 j → t < m) → (aR p.2 j, (aA p.2 j).map (app c)) ∈ q.2 from fun j hj h => by
              rcases Nat.lt_or_ge j k with h1 | h1
              · exact Hno.out j h1 h
              · rw [show j = k by omega, ← Hr.out, ← HAe.out]; exact of_decide_eq_true HD.out)
            go_wp2_with fail
            go_roundw
            case rel => exact ⟨k + 1, by go_num, by omega, Hc0.out, HN.out⟩
            case measure => simp [intOf]; omega
      · have HG2 := Lib.hid g
        clear g
        go_upto_region 4 with fail
        rw [← Hwn.out, ← HbA.out]
        clear Hwn hc1 hc2 hixk
        try simp only [Act.put]
        go_cut [31] (fun o1 wc => o1 = .bool false ∧ Below wn.heap.size wn wc)
        case first =>
          have HS0 := Lib.hid (show Bx wn.drew bq (.slice a4 n0 cap4) (.slice ba1 n3 bc1) ∧ AtR wn.drew bA r (.slice ua un uc) from ⟨HBn.out.q, HAt.out⟩)
          have Hw0 := Lib.hid (show Below w.heap.size w wn.drew from HBn.out.b.drew)
          have HW0 := Lib.hid (show Below wn.heap.size wn wn.drew from (Below.refl _ _).drew)
          refine wp_region_held (S := fun w' => Bx w' bq (.slice a4 n0 cap4) (.slice ba1 n3 bc1) ∧ AtR w' bA r (.slice ua un uc)) wideK ?_
          change wpAnyH _ _ _ _ _ _ _ _ (World.drew _)
          generalize wn.drew = wd0 at *
          refine wpAnyH_take (i := 0) (v := ?_) rfl (by kernel_rfl) (by kernel_rfl) (by kernel_rfl) (fun _ _ _ h => h) (Or.inl ⟨by rfl, ?_⟩) HS0.out ?_
          rotate_left
          focus (intro w hS; have s0 := aCell hS.2 0 rfl; have s1 := aCell hS.2 1 rfl; clear hS; first | (go_simp; done) | (go_simp; with_reducible rfl))
          simp only [Act.put, List.getElem_toArray, List.getElem_cons_zero, List.setIfInBounds_toArray, List.set_cons_zero, List.set_cons_succ]
          refine wpAnyH_take (i := 2) (v := ?_) rfl (by kernel_rfl) (by kernel_rfl) (by kernel_rfl) (fun _ _ _ h => h) (Or.inl ⟨by rfl, ?_⟩) HS0.out ?_
          rotate_left
          focus (intro w hS; clear hS; first | (go_simp; done) | (go_simp; with_reducible rfl))
          simp only [Act.put, List.getElem_toArray, List.getElem_cons_zero, List.getElem_cons_succ, List.setIfInBounds_toArray, List.set_cons_zero, List.set_cons_succ]
          refine wpAnyH_take (i := 3) (v := ?_) rfl (by kernel_rfl) (by kernel_rfl) (by kernel_rfl) (fun _ _ _ h => h) (Or.inl ⟨by rfl, ?_⟩) HS0.out ?_
          rotate_left
          focus (intro w hS; clear hS; first | (go_simp; done) | (go_simp; with_reducible rfl))
          simp only [Act.put, List.getElem_toArray, List.getElem_cons_zero, List.getElem_cons_succ, List.setIfInBounds_toArray, List.set_cons_zero, List.set_cons_succ]
          refine wpAnyH_ready (rs := [1]) (by kernel_rfl) (by simp) ?_
          refine RdyH.cons rfl (fun K2 hK => ?_) RdyH.nil
          go_simp
          go_at_call 94
          refine (varsR_any r A (fun t ht => (HA7.out.1 t ht).2) _ _ (HIk.out.keep HW0.out)).mono ?_
          rintro e wd1 ⟨rfl, hb⟩
          have HS1 := Lib.hid (And.intro (Bx.keep HS0.out.1 hb) (AtR.keep HS0.out.2 hb))
          have Hw1 := Lib.hid (Below.tr Hw0.out hb)
          have HW1 := Lib.hid (Below.tr HW0.out hb)
          clear hb
          obtain ⟨V, hV⟩ : ∃ V, V = vsA A := ⟨_, rfl⟩
          rw [← hV]
          have HVs := Lib.hid hV
          clear hV
          obtain ⟨P, hP, p1, p2, p3⟩ := qpow_name m (by omega)
          have hn0 : (0 : Int) ≤ (m : Int) := by omega
          have hn64 : (m : Int) < 64 := by omega
          have HV256 : V < 256 := by rw [HVs.out]; exact vsA_lt A
          have hdv := div_zero_iff (V := V) p3
          have hdz : decide (V / P = 0) = false := by rw [hP, HVs.out, ← Nat.shiftRight_eq_div_pow]; exact decide_eq_false fun h => HG2.out ((vsA_shift (fun t ht => (HA7.out.1 t ht).2) m).1 h)
          rw [hdz] at hdv
          clear hP hdz
          go_simp
          refine hK _ _ HS1.out ?_
          clear hK K2
          refine wpAnyH_take (i := 4) (v := ?_) rfl (by kernel_rfl) (by kernel_rfl) (by kernel_rfl) (fun _ _ _ h => h) (Or.inl ⟨by rfl, ?_⟩) HS1.out ?_
          rotate_left
          focus (intro w hS; clear hS; first | (go_simp; done) | (go_simp; with_reducible rfl))
          simp only [Act.put, List.getElem_toArray, List.getElem_cons_zero, List.getElem_cons_succ, List.setIfInBounds_toArray, List.set_cons_zero, List.set_cons_succ]
          refine wpAnyH_take (i := 5) (v := ?_) rfl (by kernel_rfl) (by kernel_rfl) (by kernel_rfl) (fun _ _ _ h => h) (Or.inl ⟨by rfl, ?_⟩) HS1.out ?_
          rotate_left
          focus (intro w hS; clear hS; first | (go_simp; done) | (go_simp; with_reducible rfl))
          simp only [Act.put, List.getElem_toArray, List.getElem_cons_zero, List.getElem_cons_succ, List.setIfInBounds_toArray, List.set_cons_zero, List.set_cons_succ]
          refine wpAnyH_take (i := 6) (v := ?_) rfl (by kernel_rfl) (by kernel_rfl) (by kernel_rfl) (fun _ _ _ h => h) (Or.inl ⟨by rfl, ?_⟩) HS1.out ?_
          rotate_left
          focus (intro w hS; clear hS; first | (go_simp; done) | (go_simp; with_reducible rfl))
          simp only [Act.put, List.getElem_toArray, List.getElem_cons_zero, List.getElem_cons_succ, List.setIfInBounds_toArray, List.set_cons_zero, List.set_cons_succ]
          refine wpAnyH_take (i := 7) (v := undef) rfl (by kernel_rfl) (by kernel_rfl) (by kernel_rfl) (fun _ _ _ h => h) (Or.inr ⟨by rfl, rfl⟩) HS1.out ?_
          simp only [Act.put, List.getElem_toArray, List.getElem_cons_zero, List.getElem_cons_succ, List.setIfInBounds_toArray, List.set_cons_zero, List.set_cons_succ]
          refine wpAnyH_take (i := 8) (v := undef) rfl (by kernel_rfl) (by kernel_rfl) (by kernel_rfl) (fun _ _ _ h => h) (Or.inr ⟨by rfl, rfl⟩) HS1.out ?_
          simp only [Act.put, List.getElem_toArray, List.getElem_cons_zero, List.getElem_cons_succ, List.setIfInBounds_toArray, List.set_cons_zero, List.set_cons_succ]
          refine wpAnyH_take (i := 9) (v := undef) rfl (by kernel_rfl) (by kernel_rfl) (by kernel_rfl) (fun _ _ _ h => h) (Or.inr ⟨by rfl, rfl⟩) HS1.out ?_
          simp only [Act.put, List.getElem_toArray, List.getElem_cons_zero, List.getElem_cons_succ, List.setIfInBounds_toArray, List.set_cons_zero, List.set_cons_succ]
          refine wpAnyH_ready (rs := [10]) (by kernel_rfl) (by simp) ?_
          refine RdyH.cons rfl (fun K2 hK => ?_) RdyH.nil
          go_simp
          refine hK _ _ HS1.out ?_
          clear hK K2
          refine wpAnyH_ready (rs := [11]) (by kernel_rfl) (by simp) ?_
          refine RdyH.cons rfl (fun K2 hK => ?_) RdyH.nil
          go_simp
          refine hK _ _ HS1.out ?_
          clear hK K2
          refine wpAnyH_take (i := 12) (v := undef) rfl (by kernel_rfl) (by kernel_rfl) (by kernel_rfl) (fun _ _ _ h => h) (Or.inr ⟨by rfl, rfl⟩) HS1.out ?_
          simp only [Act.put, List.getElem_toArray, List.getElem_cons_zero, List.getElem_cons_succ, List.setIfInBounds_toArray, List.set_cons_zero, List.set_cons_succ]
          refine wpAnyH_take (i := 13) (v := ?_) rfl (by kernel_rfl) (by kernel_rfl) (by kernel_rfl) (fun _ _ _ h => h) (Or.inl ⟨by rfl, ?_⟩) HS1.out ?_
          rotate_left
          focus (intro w hS; clear hS; first | (go_simp; done) | (go_simp; with_reducible rfl))
          simp only [Act.put, List.getElem_toArray, List.getElem_cons_zero, List.getElem_cons_succ, List.setIfInBounds_toArray, List.set_cons_zero, List.set_cons_succ]
          refine wpAnyH_done (by kernel_rfl) ?_ _
          go_wp2_with fail
          go_meet
          exact ⟨rfl, HW1.out⟩
        case rest =>
          obtain ⟨rfl, hb⟩ := hcut
          have Hc0 := Lib.hid (Below.tr Hbn.out hb)
          have HBc := Lib.hid (HBn.out.keep hb)
          clear hb
          have HN := Lib.hid (show ∀ j, j < k + 1 → (∀ t, t ∈ aA p.2 j → t < m) → (aR p.2 j, (aA p.2 j).map (app c)) ∈ q.2 from fun j hj h => by
            rcases Nat.lt_or_ge j k with h1 | h1
            · exact Hno.out j h1 h
            · rw [show j = k by omega, ← HAe.out] at h; exact absurd h HG2.out)
          go_wp2_with fail
          go_roundw
          case rel => exact ⟨k + 1, by go_num, by omega, Hc0.out, HN.out⟩
          case measure => simp [intOf]; omega
    · obtain rfl : k = n1 := by omega
      have HBx := Lib.hid (HB.out.keep Hb.out)
      obtain ⟨⟨g0, g1⟩, g2, g3⟩ := HBx.out.cells
      go_wp2_with fail
      clear g0 g1 g2 g3
      go_loopw [36] (fun vi wz => ∃ k : Nat, vi = .int .i64 k ∧ k ≤ n0 ∧ Below wx.heap.size wx wz ∧ ∀ j, j < k → p.1.getD j 0 < m → c.getD (p.1.getD j 0).toNat 0 = q.1.getD j 0) (fun vi _ => n0 - (intOf vi).toNat)
      case atStart => exact ⟨0, rfl, Nat.zero_le _, Below.refl _ _, fun j h => by omega⟩
      case round =>
        generalize wr = wz at *
        obtain ⟨j, rfl, hj, hb, hno2⟩ := hrel
        have Hz := Lib.hid hb
        have Hno2 := Lib.hid hno2
        have HBz := Lib.hid (HBx.out.keep hb)
        clear hb hno2
        by_cases hlj : j < n0
        · have hcj := Below.keep HBz.out.b (Hc3.out j hlj)
          have hcq := Below.keep HBz.out.b (Hc4.out j hlj)
          have hixj := Hi3.out j
          have hixq := Hi4.out j
          obtain ⟨h1, h2⟩ := HV.out j hlj
          obtain ⟨t, ht⟩ : ∃ t : Nat, (t : Int) = p.1.getD j 0 := ⟨_, Int.toNat_of_nonneg h1⟩
          have HT := Lib.hid ht
          rw [← ht] at hcj h2
          clear ht h1
          obtain ⟨⟨g0, g1⟩, g2, g3⟩ := HBz.out.cells
          obtain ⟨Q, hQ⟩ : ∃ Q, Q = q.1.getD j 0 := ⟨_, rfl⟩
          have HQ := Lib.hid hQ
          rw [← hQ] at hcq
          clear hQ
          by_cases g : t < m
          · have hg : decide (t < m) = true := decide_eq_true g
            have hg2 : ((t : Int) < (m : Int)) := by omega
            have hct := Below.keep HBz.out.b (Hxc.out t g)
            have hixt := Hix.out t
            obtain ⟨C, hC⟩ : ∃ C, C = c.getD t 0 := ⟨_, rfl⟩
            have HC := Lib.hid hC
            rw [← hC] at hct
            clear hC
            by_cases e : C = Q
            · have hne : (C != Q) = false := by rw [bne_eq_false_iff_eq]; exact e
              have HN := Lib.hid (show ∀ i, i < j + 1 → p.1.getD i 0 < m → c.getD (p.1.getD i 0).toNat 0 = q.1.getD i 0 from fun i hi h => by
                rcases Nat.lt_or_ge i j with h1 | h1
                · exact Hno2.out i h1 h
                · rw [show i = j by omega, ← HT.out, Int.toNat_natCast, ← HC.out, ← HQ.out]; exact e)
              clear e
              go_upto_region 10 with fail
              go_quiet (fail)
              go_wp2_with fail
              go_roundw
              case rel => exact ⟨j + 1, by go_num, by omega, Below.tr Hz.out (drewB' _), HN.out⟩
              case measure => simp [intOf]; omega
            · have hne : (C != Q) = true := by rw [bne_iff_ne]; exact e
              have HN := Lib.hid (show ¬ Poss p q c from fun h => e (by
                have h1 := h.hd j (by rw [← Hn0.out]; exact hlj) (by rw [← HT.out, ← Hm.out]; exact hg2)
                rw [← HT.out, Int.toNat_natCast, ← HC.out, ← HQ.out] at h1; exact h1))
              clear e
              go_upto_region 10 with fail
              go_quiet (fail)
              go_wp2_with fail
              go_ret
              exact ⟨false, rfl, ⟨fun h => (by cases h), fun h => absurd h HN.out⟩, Below.tr HBz.out.b (drewB' _)⟩
          · have hg : decide (t < m) = false := decide_eq_false g
            have hg2 : ¬ ((t : Int) < (m : Int)) := by omega
            have HN := Lib.hid (show ∀ i, i < j + 1 → p.1.getD i 0 < m → c.getD (p.1.getD i 0).toNat 0 = q.1.getD i 0 from fun i hi h => by
              rcases Nat.lt_or_ge i j with h1 | h1
              · exact Hno2.out i h1 h
              · rw [show i = j by omega, ← HT.out] at h; omega)
            go_upto_region 10 with fail
            go_quiet (fail)
            go_wp2_with fail
            go_roundw
            case rel => exact ⟨j + 1, by go_num, by omega, Below.tr Hz.out (drewB' _), HN.out⟩
            case measure => simp [intOf]; omega
        · obtain rfl : j = n0 := by omega
          have HN := Lib.hid (show Poss p q c from ⟨fun a ha ht => by
            obtain ⟨i, hi, rfl⟩ := List.getElem_of_mem ha
            rw [at_get hi] at ht ⊢
            rw [← Hm.out] at ht
            exact Hno.out i (by rw [Hn1.out]; exact hi) ht, fun i hi h => by
            rw [← Hm.out] at h
            exact Hno2.out i (by rw [Hn0.out]; exact hi) h⟩)
          go_wp2_with fail
          go_ret
          exact ⟨true, rfl, ⟨fun _ => HN.out, fun _ => rfl⟩, HBz.out.b⟩
#print axioms possR_any
end Go.Proofs.Ytfplmdieeabgpaa

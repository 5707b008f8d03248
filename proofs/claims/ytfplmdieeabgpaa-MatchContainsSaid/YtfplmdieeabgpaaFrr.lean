/- Contract of the reference's Freeze. -/
import Derived.Test.YtfplmdieeabgpaaRsr
import Derived.Test.YtfplmdieeabgpaaFrz
namespace Go.Proofs.Ytfplmdieeabgpaa
open Go.RowKit
def frz1 (t : Int) : Int := if 0 ≤ t then 10 + t else -t
theorem own_set2 {w : World} {base size n bo j : Nat} {e t : TypeId} {v x : Value} {xs : List Value} {cs : Array Value} {fr : Nat × Nat} (h : w.ownsRow base e size v n xs) (hb : w.heap[bo]? = some (.cells cs t fr)) (hne : t ≠ e) : (w.setCell ⟨bo, j, none⟩ x).ownsRow base e size v n xs :=
  own_block h fun g hg => heap_setCell_other w ⟨bo, j, none⟩ g x fun q => by
    rcases h.2 with ⟨rfl, _⟩ | ⟨g', cap, cur, rfl, _, hh, _⟩
    · cases hg
    · cases hg
      have q' : g' = bo := q
      subst q'
      rw [hb] at hh
      injection hh with hh
      injection hh with _ hh _
      exact hne hh
theorem row_slice {w : World} {base : Nat} {e : TypeId} {size n : Nat} {v : Value} {xs : List Value} (h : w.ownsRow base e size v n xs) : ∃ a m k, v = .slice a m k := by
  obtain ⟨_, _, a, b, off, cap, e, _⟩ := owns_rd h
  exact ⟨_, _, _, e⟩
def frB (a : HAt) : HAt := (a.1, a.2.map frz1)
set_option maxRecDepth 100000 in
set_option maxHeartbeats 8000000 in
theorem freezeR_any {q : HQ} (hq : QrV q) (v : Value) (w : World) (hv : Qr w v q) :
    Calls Try.prog 36 #[v] w fun e w' => ∃ a n k y m z, e = .returned (.tuple #[.slice a n k, .slice y m z]) ∧ Atoms w' (.slice a n k) (q.2.map frB) ∧ Ints w' (.slice y m z) (q.1.map (10 + ·)) ∧ Below w.heap.size w w' := by
  obtain ⟨h0, b0, rfl, hh, hb⟩ := hv
  obtain ⟨a3, b3, off3, cap3, rfl, _, hia3, hc3⟩ := Ints.get hh
  obtain ⟨a, b, off, cap, vs, rfl, _, hia, _, hcl⟩ := Atoms.get hb
  obtain ⟨hd, bd⟩ := q
  simp only at *
  obtain ⟨n0, hn0⟩ : ∃ x, x = hd.length := ⟨_, rfl⟩
  obtain ⟨n1, hn1⟩ : ∃ x, x = bd.length := ⟨_, rfl⟩
  have Hn0 := Lib.hid hn0
  have Hn1 := Lib.hid hn1
  have gd : ∀ (l : List Int) (i : Nat) (hi : i < l.length), l[i] = l.getD i 0 := fun l i hi => by rw [List.getD_eq_getElem?_getD, List.getElem?_eq_getElem hi]; rfl
  have Hc3 := Lib.hid (show ∀ i, i < n0 → w.cell? ⟨b3, off3 + i, none⟩ = some (.int .i64 (hd.getD i 0)) from fun i hi => by rw [hc3 i (by omega), gd])
  rw [← hn0] at hia3 ⊢
  rw [← hn1] at hia hcl ⊢
  have Hc := Lib.hid hcl
  have Hix3 := Lib.hid (run_ix (P := Try.prog) (t := 22) (a := a3) (len := n0) (cap := cap3) (b := b3) (off := off3) (s := 1) Try.underlying22 (by intro w; kernel_rfl) hia3)
  simp only [Nat.mul_one] at Hix3
  have Hix := Lib.hid (run_ix (P := Try.prog) (t := 23) (a := a) (len := n1) (cap := cap) (b := b) (off := off) (s := 2) Try.underlying23 (by intro w; kernel_rfl) hia)
  have Hq := Lib.hid hq
  have hn15 : n1 ≤ 5 := by rw [hn1]; exact hq.1.2.1
  have hn04 : n0 ≤ 4 := by rw [hn0]; exact hq.1.2.2
  obtain ⟨w1, hw1⟩ : ∃ x, x = w.alloc (.cells #[.slice a3 n0 cap3, .slice a n1 cap] 25) := ⟨_, rfl⟩
  have hb1 : Below w.heap.size w w1 := by rw [hw1]; exact below_alloc _ _
  obtain ⟨bq, hbq⟩ : ∃ x, x = w.heap.size := ⟨_, rfl⟩
  have HB1 := Lib.hid (show Bx w1 bq (.slice a3 n0 cap3) (.slice a n1 cap) from by rw [hw1, hbq]; exact heap_alloc_new _ _)
  have Hb1 := Lib.hid hb1
  have Hw1 := Lib.hid hw1
  have Hbq := Lib.hid hbq
  clear hh hb hw1 hb1 hbq hia3 hc3 gd hn0 hn1 hia hcl hq
  go_enter Try.func36, Try.ntmps36
  go_upto_region 1 with fail
  rw [← Hw1.out, ← Hbq.out]
  clear Hw1 Hbq
  have g1 := aCell HB1.out 1 rfl
  go_wp2_with fail
  clear g1
  go_loopw [4, 16] (fun vo vi wr => ∃ (i : Nat) (oa : Option Addr) (on ok : Nat), vo = .slice oa on ok ∧ vi = .int .i64 i ∧ i ≤ n1 ∧ Below w1.heap.size w1 wr ∧ OwnAtoms 77 w1.heap.size wr (.slice oa on ok) ((bd.take i).map frB)) (fun _ vi _ => n1 - (intOf vi).toNat)
  case atStart => exact ⟨0, none, 0, 0, rfl, rfl, Nat.zero_le _, Below.refl _ _, ownAtoms_nil _ _ _⟩
  case round =>
    generalize wr = wx at *
    obtain ⟨i, oa, on, ok, rfl, rfl, hi, hb, ho⟩ := hrel
    have Hb := Lib.hid hb
    have HO := Lib.hid ho
    clear hb ho
    by_cases hlt : i < n1
    · have hbw := Below.tr Hb1.out Hb.out
      have hc1 := Below.keep hbw (Hc.out i hlt).1
      have hc2 := Below.keep hbw (Hc.out i hlt).2.1
      have hai := Ints.keep (Hc.out i hlt).2.2 hbw
      have hixi := Hix.out i
      have hlt' : i < bd.length := by rw [← Hn1.out]; exact hlt
      have HT := Lib.hid (show (bd.take (i + 1)).map frB = (bd.take i).map frB ++ [(aR bd i, (aA bd i).map frz1)] from by rw [List.take_succ_eq_append_getElem hlt', List.map_append, at_get hlt']; rfl)
      have HAt := Lib.hid (Hq.out.2.1 i hlt')
      simp only at HAt
      obtain ⟨r, hr⟩ : ∃ t, t = aR bd i := ⟨_, rfl⟩
      obtain ⟨A, hA⟩ : ∃ t, t = aA bd i := ⟨_, rfl⟩
      rw [← hr, ← hA] at HT HAt
      rw [← hr] at hc1
      rw [← hA] at hai
      clear hr hA hbw hlt'
      obtain ⟨a5, b5, off5, cap5, he5, _, hia5, hc5⟩ := Ints.get hai
      rw [he5] at hc2 hai
      clear he5
      obtain ⟨un, hun⟩ : ∃ x, x = A.length := ⟨_, rfl⟩
      have Hun := Lib.hid hun
      have Hc5 := Lib.hid (show ∀ k, k < un → wx.cell? ⟨b5, off5 + k, none⟩ = some (.int .i64 (A.getD k 0)) from fun k hk => by rw [hc5 k (by omega), List.getD_eq_getElem?_getD, List.getElem?_eq_getElem (by omega)]; rfl)
      rw [← hun] at hc2 hai hia5
      have Hix5 := Lib.hid (run_ix (P := Try.prog) (t := 22) (a := a5) (len := un) (cap := cap5) (b := b5) (off := off5) (s := 1) Try.underlying22 (by intro w; kernel_rfl) hia5)
      simp only [Nat.mul_one] at Hix5
      have hun3 : un ≤ 3 := by rw [hun]; exact HAt.out.2.1.2
      obtain ⟨wa, hwa⟩ : ∃ x, x = wx.alloc (.cells #[.int .i64 r, .slice a5 un cap5] 80) := ⟨_, rfl⟩
      have hba : Below wx.heap.size wx wa := by rw [hwa]; exact below_alloc _ _
      obtain ⟨bA, hbA⟩ : ∃ x, x = wx.heap.size := ⟨_, rfl⟩
      have HAb := Lib.hid (show wa.heap[bA]? = some (.cells #[.int .i64 r, .slice a5 un cap5] 80 (0, 0)) from by rw [hwa, hbA]; exact heap_alloc_new _ _)
      obtain ⟨wf, hwf⟩ : ∃ x, x = wa.alloc (.cells #[.int .i64 r, .slice none 0 0] 77) := ⟨_, rfl⟩
      have hbf : Below wa.heap.size wa wf := by rw [hwf]; exact below_alloc _ _
      obtain ⟨bf, hbf2⟩ : ∃ x, x = wa.heap.size := ⟨_, rfl⟩
      have HFb := Lib.hid (show wf.heap[bf]? = some (.cells #[.int .i64 r, .slice none 0 0] 77 (0, 0)) from by rw [hwf, hbf2]; exact heap_alloc_new _ _)
      have HOa := Lib.hid (HO.out.keep hba)
      have Hba := Lib.hid (Below.tr Hb.out hba)
      have Hxa := Lib.hid hba
      have Hbf := Lib.hid hbf
      have Hbfe := Lib.hid hbf2
      have Hwa := Lib.hid hwa
      have HbA := Lib.hid hbA
      have Hwf := Lib.hid hwf
      clear hai hun hia5 hc5 hwa hba hbA hwf hbf hbf2 HO Hb
      go_upto_region 5 with fail
      rw [← Hwa.out, ← HbA.out]
      clear Hwa HbA hc1 hc2 hixi
      have g0 := aCell HAb.out 0 rfl
      go_upto_region 6 with fail
      rw [← Hwf.out, ← Hbfe.out]
      clear Hwf g0
      have g1 := aCell (blk_keep2 HAb.out Hbf.out) 1 rfl
      go_wp2_with fail
      clear g1
      go_loopw [26] (fun vi wz => ∃ (j : Nat) (ya : Option Addr) (yn yk : Nat), vi = .int .i64 j ∧ j ≤ un ∧ Below wa.heap.size wa wz ∧ wz.heap[bf]? = some (.cells #[.int .i64 r, .slice ya yn yk] 77 (0, 0)) ∧ OwnInts wa.heap.size wz (.slice ya yn yk) ((A.take j).map frz1)) (fun vi _ => un - (intOf vi).toNat)
      case atStart => exact ⟨0, none, 0, 0, rfl, Nat.zero_le _, Hbf.out, HFb.out, ownInts_nil _ _⟩
      case round =>
        generalize wr = wz at *
        obtain ⟨j, ya, yn, yk, rfl, hj, hb, hf, ho⟩ := hrel
        have Hz := Lib.hid hb
        have HF := Lib.hid hf
        have HOz := Lib.hid ho
        clear hb hf ho
        by_cases hlj : j < un
        · have hcj := Below.keep Hz.out (Below.keep Hxa.out (Hc5.out j hlj))
          have hixj := Hix5.out j
          have hlj' : j < A.length := by rw [← Hun.out]; exact hlj
          have e : A.getD j 0 = A[j] := by rw [List.getD_eq_getElem?_getD, List.getElem?_eq_getElem hlj']; rfl
          have HTj := Lib.hid (show (A.take (j + 1)).map frz1 = (A.take j).map frz1 ++ [frz1 (A.getD j 0)] from by rw [List.take_succ_eq_append_getElem hlj', List.map_append, e]; rfl)
          have hr := HAt.out.2.2 (A.getD j 0) (by rw [e]; exact List.getElem_mem hlj')
          obtain ⟨t, ht⟩ : ∃ t, t = A.getD j 0 := ⟨_, rfl⟩
          rw [← ht] at hcj HTj hr
          clear ht e hlj'
          obtain ⟨Z, hZ⟩ : ∃ Z, Z = frz1 t := ⟨_, rfl⟩
          rw [← hZ] at HTj
          obtain ⟨w7, hw7⟩ : ∃ x, x = wz.alloc (.cells #[.int .i64 Z] 3) := ⟨_, rfl⟩
          have hb : Below wz.heap.size wz w7 := by rw [hw7]; exact below_alloc _ _
          obtain ⟨bl, hbl⟩ : ∃ x, x = wz.heap.size := ⟨_, rfl⟩
          have HL := Lib.hid (show w7.heap[bl]? = some (.cells #[.int .i64 Z] 3 (0, 0)) from by rw [hw7, hbl]; exact heap_alloc_new _ _)
          have HO7 := Lib.hid (HOz.out.keep hb)
          have HF7 := Lib.hid (blk_keep2 HF.out hb)
          have Hz7 := Lib.hid (Below.tr Hz.out hb)
          have Hw7 := Lib.hid hw7
          have Hbl := Lib.hid hbl
          have hln : ((A.take j).map frz1).length + 1 ≤ 100000000000 := by rw [List.length_map, List.length_take]; omega
          have g1 := aCell HF.out 1 rfl
          clear hw7 hb hbl HOz Hz
          by_cases c : 0 ≤ t
          · have hz1 : IntKind.i64.wrap (-10 - t) = -10 - t := IntWalk.i64_in _ ⟨by omega, by omega⟩
            have hz2 : IntKind.i64.wrap (-(-10 - t)) = Z := by rw [show -(-10 - t) = 10 + t by omega, hZ, show frz1 t = 10 + t from if_pos c]; exact IntWalk.i64_in _ ⟨by omega, by omega⟩
            clear hZ
            go_wp2_with (first | (at_builtin; rw [← Hw7.out, ← Hbl.out]; refine append_own rfl (.tmp 35) (.tmp 38) 22 rfl elemInts rfl HO7.out (m := 1) [.int .i64 Z] rfl rfl (fun k y hk => aCell HL.out k (by simpa using hk)) (ints_oneCell [Z]) hln Hz7.out.size ?_; intro v9 w9 h91 h92 h93; obtain ⟨pa, pn, pk, rfl⟩ := row_slice h91; have HF9 := block_grown HO7.out h93 HF7.out (by decide); have gk := aCell HF9 1 rfl; have gf := frozen_of_row w9 _ 1 _ _ HF9; have H91 := Lib.hid h91; have H92 := Lib.hid h92; have HF9 := Lib.hid HF9; clear h91 h92 h93))
            have HFn := Lib.hid (show (w9.setCell ⟨bf, 1, none⟩ (.slice pa pn pk)).heap[bf]? = some (.cells #[.int .i64 r, .slice pa pn pk] 77 (0, 0)) from by rw [heap_setCell_same w9 _ 1 _ _ _ HF9.out]; rfl)
            have HOn := Lib.hid (show OwnInts wa.heap.size (w9.setCell ⟨bf, 1, none⟩ (.slice pa pn pk)) (.slice pa pn pk) ((A.take (j + 1)).map frz1) from by
              rw [HTj.out]
              exact own_set2 (OwnInts.snoc H91.out) HF9.out (by decide))
            have Hzn := Lib.hid (show Below wa.heap.size wa (w9.setCell ⟨bf, 1, none⟩ (.slice pa pn pk)) from (Hz7.out.trans H92.out).setCell (Nat.le_of_eq Hbfe.out.symm) _)
            go_roundw
            case rel => exact ⟨j + 1, pa, pn, pk, by go_num, by omega, Hzn.out, HFn.out, HOn.out⟩
            case measure => simp [intOf]; omega
          · have hz2 : IntKind.i64.wrap (-t) = Z := by rw [hZ, show frz1 t = -t from if_neg c]; exact IntWalk.i64_in _ ⟨by omega, by omega⟩
            clear hZ
            go_wp2_with (first | (at_builtin; rw [← Hw7.out, ← Hbl.out]; refine append_own rfl (.tmp 35) (.tmp 38) 22 rfl elemInts rfl HO7.out (m := 1) [.int .i64 Z] rfl rfl (fun k y hk => aCell HL.out k (by simpa using hk)) (ints_oneCell [Z]) hln Hz7.out.size ?_; intro v9 w9 h91 h92 h93; obtain ⟨pa, pn, pk, rfl⟩ := row_slice h91; have HF9 := block_grown HO7.out h93 HF7.out (by decide); have gk := aCell HF9 1 rfl; have gf := frozen_of_row w9 _ 1 _ _ HF9; have H91 := Lib.hid h91; have H92 := Lib.hid h92; have HF9 := Lib.hid HF9; clear h91 h92 h93))
            have HFn := Lib.hid (show (w9.setCell ⟨bf, 1, none⟩ (.slice pa pn pk)).heap[bf]? = some (.cells #[.int .i64 r, .slice pa pn pk] 77 (0, 0)) from by rw [heap_setCell_same w9 _ 1 _ _ _ HF9.out]; rfl)
            have HOn := Lib.hid (show OwnInts wa.heap.size (w9.setCell ⟨bf, 1, none⟩ (.slice pa pn pk)) (.slice pa pn pk) ((A.take (j + 1)).map frz1) from by
              rw [HTj.out]
              exact own_set2 (OwnInts.snoc H91.out) HF9.out (by decide))
            have Hzn := Lib.hid (show Below wa.heap.size wa (w9.setCell ⟨bf, 1, none⟩ (.slice pa pn pk)) from (Hz7.out.trans H92.out).setCell (Nat.le_of_eq Hbfe.out.symm) _)
            go_roundw
            case rel => exact ⟨j + 1, pa, pn, pk, by go_num, by omega, Hzn.out, HFn.out, HOn.out⟩
            case measure => simp [intOf]; omega
        · obtain rfl : j = un := by omega
          have HU := Lib.hid (show OwnInts w1.heap.size wz (.slice ya yn yk) (A.map frz1) from by
            have := HOz.out
            rw [Hun.out, List.take_length] at this
            exact OwnInts.base this Hba.out.size)
          have HOx := Lib.hid (HOa.out.keep Hz.out)
          have Hz1 := Lib.hid (Below.tr Hba.out Hz.out)
          obtain ⟨w7, hw7⟩ : ∃ x, x = wz.alloc (.cells #[.int .i64 r, .slice ya yn yk] 77) := ⟨_, rfl⟩
          have hb : Below wz.heap.size wz w7 := by rw [hw7]; exact below_alloc _ _
          obtain ⟨bl, hbl⟩ : ∃ x, x = wz.heap.size := ⟨_, rfl⟩
          have HL := Lib.hid (show w7.heap[bl]? = some (.cells #[.int .i64 r, .slice ya yn yk] 77 (0, 0)) from by rw [hw7, hbl]; exact heap_alloc_new _ _)
          have HO7 := Lib.hid (HOx.out.keep hb)
          have HU7 := Lib.hid (HU.out.keep hb)
          have Hz7 := Lib.hid (Below.tr Hz1.out hb)
          have Hw7 := Lib.hid hw7
          have Hbl := Lib.hid hbl
          obtain ⟨vs1, e1, e2, e3⟩ := HO7.out
          have hln : ((bd.take i).map frB).length + 1 ≤ 100000000000 := by rw [List.length_map, List.length_take]; omega
          have g0 := aCell HF.out 0 rfl
          have g1 := aCell HF.out 1 rfl
          clear hw7 hb hbl HOz Hz
          go_wp2_with (first | (at_builtin; rw [← Hw7.out, ← Hbl.out]; refine append_own rfl (.tmp 42) (.tmp 44) 26 rfl elemFacts rfl e2 (m := 1) [.int .i64 r, .slice ya yn yk] rfl rfl (fun k y hk => aCell HL.out k (by simpa using hk)) (by intro u hu; simp at hu; rcases hu with rfl | rfl <;> rfl) hln Hz7.out.size ?_; intro v9 w9 h91 h92 h93))
          have HO9 := Lib.hid (show OwnAtoms 77 w1.heap.size w9 v9 ((bd.take (i + 1)).map frB) from by
            rw [HT.out]
            exact OwnAtoms.snoc factNotInt e1 e2 e3 HU7.out h93 h91)
          have Hz9 := Lib.hid (Hz7.out.trans h92)
          obtain ⟨pa, pk, rfl⟩ := Atoms.own HO9.out
          obtain ⟨pn, hpn⟩ : ∃ x, x = ((bd.take (i + 1)).map frB).length := ⟨_, rfl⟩
          rw [← hpn] at HO9 ⊢
          clear h91 h92 h93 g0 g1 e1 e2 e3 hpn
          go_wp2_with fail
          go_roundw
          case rel => exact ⟨i + 1, pa, pn, pk, rfl, by go_num, by omega, Hz9.out, HO9.out⟩
          case measure => simp [intOf]; omega
    · obtain rfl : i = n1 := by omega
      have HOf := Lib.hid (show OwnAtoms 77 w1.heap.size wx (.slice oa on ok) (bd.map frB) from by have := HO.out; rwa [Hn1.out, List.take_length] at this)
      have g0 := aCell (Bx.keep HB1.out Hb.out) 0 rfl
      have Hhd := Lib.hid (show ∀ k, k < n0 → 0 ≤ hd.getD k 0 ∧ hd.getD k 0 < 8 from fun k hk => (Hq.out.2.2 _ (by rw [List.getD_eq_getElem?_getD, List.getElem?_eq_getElem (by rw [← Hn0.out]; exact hk)]; exact List.getElem_mem _)).1)
      go_wp2_with fail
      clear g0
      go_loopw [10, 50] (fun vx vi wz => ∃ (j : Nat) (ya : Option Addr) (yn yk : Nat), vx = .slice ya yn yk ∧ vi = .int .i64 j ∧ j ≤ n0 ∧ Below wx.heap.size wx wz ∧ OwnInts wx.heap.size wz (.slice ya yn yk) ((hd.take j).map (10 + ·))) (fun _ vi _ => n0 - (intOf vi).toNat)
      case atStart => exact ⟨0, none, 0, 0, rfl, rfl, Nat.zero_le _, Below.refl _ _, ownInts_nil _ _⟩
      case round =>
        generalize wr = wz at *
        obtain ⟨j, ya, yn, yk, rfl, rfl, hj, hb, ho⟩ := hrel
        have Hz := Lib.hid hb
        have HOz := Lib.hid ho
        clear hb ho
        by_cases hlj : j < n0
        · have hcj := Below.keep Hz.out (Below.keep Hb.out (Below.keep Hb1.out (Hc3.out j hlj)))
          have hixj := Hix3.out j
          have hlj' : j < hd.length := by rw [← Hn0.out]; exact hlj
          have e : hd.getD j 0 = hd[j] := by rw [List.getD_eq_getElem?_getD, List.getElem?_eq_getElem hlj']; rfl
          have HTj := Lib.hid (show (hd.take (j + 1)).map (10 + ·) = (hd.take j).map (10 + ·) ++ [10 + hd.getD j 0] from by rw [List.take_succ_eq_append_getElem hlj', List.map_append, e]; rfl)
          have hr := Hhd.out j hlj
          obtain ⟨t, ht⟩ : ∃ t, t = hd.getD j 0 := ⟨_, rfl⟩
          rw [← ht] at hcj HTj hr
          clear ht e hlj'
          have hadd : IntKind.i64.wrap (10 + t) = 10 + t := IntWalk.i64_in _ ⟨by omega, by omega⟩
          obtain ⟨w7, hw7⟩ : ∃ x, x = wz.alloc (.cells #[.int .i64 (10 + t)] 3) := ⟨_, rfl⟩
          have hb : Below wz.heap.size wz w7 := by rw [hw7]; exact below_alloc _ _
          obtain ⟨bl, hbl⟩ : ∃ x, x = wz.heap.size := ⟨_, rfl⟩
          have HL := Lib.hid (show w7.heap[bl]? = some (.cells #[.int .i64 (10 + t)] 3 (0, 0)) from by rw [hw7, hbl]; exact heap_alloc_new _ _)
          have HO7 := Lib.hid (HOz.out.keep hb)
          have Hz7 := Lib.hid (Below.tr Hz.out hb)
          have Hw7 := Lib.hid hw7
          have Hbl := Lib.hid hbl
          have hln : ((hd.take j).map (10 + ·)).length + 1 ≤ 100000000000 := by rw [List.length_map, List.length_take]; omega
          clear hw7 hb hbl HOz Hz
          go_wp2_with (first | (at_builtin; rw [← Hw7.out, ← Hbl.out]; refine append_own rfl (.tmp 54) (.tmp 57) 22 rfl elemInts rfl HO7.out (m := 1) [.int .i64 (10 + t)] rfl rfl (fun k y hk => aCell HL.out k (by simpa using hk)) (ints_oneCell [10 + t]) hln Hz7.out.size ?_; intro v9 w9 h91 h92 h93))
          have HO9 := Lib.hid (show OwnInts wx.heap.size w9 v9 ((hd.take (j + 1)).map (10 + ·)) from by
            rw [HTj.out]
            exact OwnInts.snoc h91)
          have Hz9 := Lib.hid (Hz7.out.trans h92)
          obtain ⟨pa, pn, pk, rfl⟩ := own_slice HO9.out
          clear h91 h92 h93 hln hcj hixj
          go_wp2_with fail
          go_roundw
          case rel => exact ⟨j + 1, pa, pn, pk, rfl, by go_num, by omega, Hz9.out, HO9.out⟩
          case measure => simp [intOf]; omega
        · obtain rfl : j = n0 := by omega
          have HX := Lib.hid (show Ints wz (.slice ya yn yk) (hd.map (10 + ·)) from by have := HOz.out.ints; rwa [Hn0.out, List.take_length] at this)
          have HR := Lib.hid ((HOf.out.keep Hz.out).atoms)
          have Hw := Lib.hid (Below.tr Hb1.out (Below.tr Hb.out Hz.out))
          go_wp2_with fail
          go_ret2
          exact ⟨oa, on, ok, ya, yn, yk, rfl, HR.out, HX.out, Hw.out⟩
#print axioms freezeR_any
end Go.Proofs.Ytfplmdieeabgpaa

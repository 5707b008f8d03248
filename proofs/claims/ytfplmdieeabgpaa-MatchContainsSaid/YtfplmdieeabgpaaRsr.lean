/- Contract of the reference's Results. -/
import Derived.Test.YtfplmdieeabgpaaCtr
namespace Go.Proofs.Ytfplmdieeabgpaa
open Go.RowKit
/-- what the reference's Results returns -/
def ResRR (q : HQ) (l : List HAt) (w : World) (u : Value) (c : Int) : Prop :=
  (¬ (QrV q ∧ FsV l) ∧ u = .slice none 0 0 ∧ c = 2) ∨ (QrV q ∧ FsV l ∧ Big l q.2 ∧ c = 3 ∧ Rows w u []) ∨ (QrV q ∧ FsV l ∧ ¬ Big l q.2 ∧ c = 0 ∧ ∃ R, Rows w u R ∧ IsRes q l R)
/-- the rows of the first matches -/
def RowS (hd : List Int) (N : List (List Int)) (m : Nat) (R : List (List Int)) : Prop := Strict R ∧ ∀ z, z ∈ R ↔ ∃ i, i < m ∧ z = hdR hd (N.getD i [])
theorem rowS_len {hd : List Int} {N : List (List Int)} {m : Nat} {R : List (List Int)} (h : RowS hd N m R) : R.length ≤ m := by
  have := len_le (l := R) (m := (List.range m).map fun i => hdR hd (N.getD i [])) (strict_nodup h.1) fun z hz => by
    obtain ⟨j, hj, rfl⟩ := (h.2 z).1 hz
    exact List.mem_map.2 ⟨j, List.mem_range.2 hj, rfl⟩
  simpa using this
theorem rowS_step {hd : List Int} {N : List (List Int)} {m : Nat} {R S : List (List Int)} (h : RowS hd N m R) (hS : PutR R (hdR hd (N.getD m [])) S) : RowS hd N (m + 1) S := ⟨hS.1, fun z => by
  rw [hS.2, h.2]
  constructor
  · rintro (⟨j, hj, e⟩ | e)
    · exact ⟨j, by omega, e⟩
    · exact ⟨m, by omega, e⟩
  · rintro ⟨j, hj, e⟩
    rcases Nat.lt_or_ge j m with c | c
    · exact .inl ⟨j, c, e⟩
    · rw [show j = m by omega] at e; exact .inr e⟩
set_option maxRecDepth 100000 in
set_option maxHeartbeats 8000000 in
theorem resultsR_any {q : HQ} {l : List HAt} (v u : Value) (w : World) (hv : Qr w v q) (hu : Atoms w u l) :
    Calls Try.prog 22 #[v, u] w fun e w' => ∃ a n k c, e = .returned (.tuple #[.slice a n k, .int .i64 c]) ∧ ResRR q l w' (.slice a n k) c ∧ Below w.heap.size w w' := by
  obtain ⟨h0, b0, rfl, hh, hb⟩ := hv
  have Hq := Lib.hid (show Qr w (.agg #[h0, b0]) q from ⟨_, _, rfl, hh, hb⟩)
  have Hu := Lib.hid hu
  obtain ⟨a3, b3, off3, cap3, rfl, _, hia3, hc3⟩ := Ints.get hh
  obtain ⟨n0, hn0⟩ : ∃ x, x = q.1.length := ⟨_, rfl⟩
  have Hn0 := Lib.hid hn0
  have gd : ∀ (l : List Int) (i : Nat) (hi : i < l.length), l[i] = l.getD i 0 := fun l i hi => by rw [List.getD_eq_getElem?_getD, List.getElem?_eq_getElem hi]; rfl
  have Hc3 := Lib.hid (show ∀ i, i < n0 → w.cell? ⟨b3, off3 + i, none⟩ = some (.int .i64 (q.1.getD i 0)) from fun i hi => by rw [hc3 i (by omega), gd])
  rw [← hn0] at hia3 Hq ⊢
  have Hix3 := Lib.hid (run_ix (P := Try.prog) (t := 22) (a := a3) (len := n0) (cap := cap3) (b := b3) (off := off3) (s := 1) Try.underlying22 (by intro w; kernel_rfl) hia3)
  simp only [Nat.mul_one] at Hix3
  obtain ⟨w1, hw1⟩ : ∃ x, x = w.alloc (.cells #[.slice a3 n0 cap3, b0] 25) := ⟨_, rfl⟩
  have hb1 : Below w.heap.size w w1 := by rw [hw1]; exact below_alloc _ _
  obtain ⟨bq, hbq⟩ : ∃ x, x = w.heap.size := ⟨_, rfl⟩
  have HB1 := Lib.hid (show Bx w1 bq (.slice a3 n0 cap3) b0 from by rw [hw1, hbq]; exact heap_alloc_new _ _)
  have Hb1 := Lib.hid hb1
  have Hw1 := Lib.hid hw1
  have Hbq := Lib.hid hbq
  clear hh hb hu hw1 hb1 hbq hia3 hc3 gd hn0
  go_enter Try.func22, Try.ntmps22
  go_upto_region 1 with fail
  rw [← Hw1.out, ← Hbq.out]
  clear Hw1 Hbq
  have g0 := aCell HB1.out 0 rfl
  have g1 := aCell HB1.out 1 rfl
  by_cases hq : QrV q
  · have HV := Lib.hid (validQR_any q _ w1 (Hq.out.keep Hb1.out) true (decide_eq_true hq))
    go_wp2_with fail
    refine HV.out.mono ?_
    rintro e w2 ⟨rfl, hb⟩
    have HB2 := Lib.hid (HB1.out.keep hb)
    have Hb2 := Lib.hid (Below.tr Hb1.out hb)
    clear hb g0 g1 HV HB1 Hb1
    have g0 := aCell HB2.out 0 rfl
    have g1 := aCell HB2.out 1 rfl
    by_cases hl : FsV l
    · have HF := Lib.hid (factsR_any l _ w2 (Hu.out.keep Hb2.out) true (decide_eq_true hl))
      go_wp2_with fail
      refine HF.out.mono ?_
      rintro e w3 ⟨rfl, hb⟩
      have HB3 := Lib.hid (HB2.out.keep hb)
      have Hb3 := Lib.hid (Below.tr Hb2.out hb)
      clear hb g0 g1 HF HB2 Hb2
      have g0 := aCell HB3.out 0 rfl
      have g1 := aCell HB3.out 1 rfl
      have HM := Lib.hid (matchesU_any q l hq hl _ _ w3 (Hq.out.keep Hb3.out) (Hu.out.keep Hb3.out))
      go_wp2_with fail
      refine HM.out.mono ?_
      rintro e w4 ⟨na, nn, nk, N, c, rfl, ⟨hV, hnn, hN2, hN8, hcs⟩, hb⟩
      subst hnn
      have HB4 := Lib.hid (HB3.out.keep hb)
      have Hb4 := Lib.hid (Below.tr Hb3.out hb)
      have HN8 := Lib.hid hN8
      have Hcs := Lib.hid hcs
      have HV4 := Lib.hid hV
      have Hqv := Lib.hid hq
      have Hlv := Lib.hid hl
      obtain ⟨_, _, a2, b2, off2, cap2, e2, hia2, hc2⟩ := hV
      injection e2 with e1 e2 e3
      subst e1 e3
      have Hix2 := Lib.hid (run_ix (P := Try.prog) (t := 99) (a := na) (len := N.length) (cap := nk) (b := b2) (off := off2) (s := 8) Try.underlying99 (by intro w; kernel_rfl) hia2.1)
      have Hcv := Lib.hid (show ∀ m, m < N.length → ∀ j, j < 8 → w4.cell? ⟨b2, off2 + m * 8 + j, none⟩ = some (.int .i64 ((N.getD m []).getD j 0)) from fun m hm j hj => by
        have hlen : m * 8 + j < (cV N).length := by rw [cV_len hN8]; omega
        rw [Nat.add_assoc, hc2 _ hlen]
        have h1 := cV_at hN8 hm hj
        rwa [List.getElem?_eq_getElem hlen] at h1)
      have HH := Lib.hid (show ∀ k, k < n0 → 0 ≤ q.1.getD k 0 ∧ q.1.getD k 0 < 8 from fun k hk => (hq.2.2 _ (by rw [List.getD_eq_getElem?_getD, List.getElem?_eq_getElem (by rw [← Hn0.out]; exact hk)]; exact List.getElem_mem _)).1)
      have hn4 : n0 ≤ 4 := by rw [Hn0.out]; exact hq.1.2.2
      clear hb g0 g1 HB3 Hb3 HM hcs hN8 hia2 hc2 e2 hq hl
      go_wp2_with fail
      go_loopw [8, 30] (fun vo vi wr => ∃ (m : Nat) (oa : Option Addr) (on ok : Nat) (R : List (List Int)), vo = .slice oa on ok ∧ vi = .int .i64 m ∧ m ≤ N.length ∧ Below w4.heap.size w4 wr ∧ Rows wr (.slice oa on ok) R ∧ RowS q.1 N m R) (fun _ vi _ => N.length - (intOf vi).toNat)
      case atStart => exact ⟨0, none, 0, 0, [], rfl, rfl, Nat.zero_le _, Below.refl _ _, (ownRows_nil 0 _).rows, List.Pairwise.nil, fun z => ⟨fun h => (by cases h), fun ⟨j, h, _⟩ => (by omega)⟩⟩
      case round =>
        generalize wr = wx at *
        obtain ⟨m, oa, on, ok, R, rfl, rfl, hm, hb, hR, hS⟩ := hrel
        have Hb := Lib.hid hb
        have HR := Lib.hid hR
        have HS := Lib.hid hS
        clear hb hR hS
        by_cases hlm : m < N.length
        · have h8 : (N.getD m []).length = 8 := HN8.out _ (by rw [List.getD_eq_getElem?_getD, List.getElem?_eq_getElem hlm]; exact List.getElem_mem hlm)
          have hixm := Hix2.out m
          have hcv := fun j hj => Below.keep Hb.out (Hcv.out m hlm j hj)
          have HSt := Lib.hid (fun S (h : PutR R (hdR q.1 (N.getD m [])) S) => rowS_step HS.out h)
          obtain ⟨v, hv⟩ : ∃ x, x = N.getD m [] := ⟨_, rfl⟩
          rw [← hv] at h8 hcv HSt
          obtain ⟨x0, x1, x2, x3, x4, x5, x6, x7, hx⟩ := eq8 h8
          have Hx := Lib.hid hx
          have d0 : wx.cell? ⟨b2, off2 + m * 8, none⟩ = some (.int .i64 x0) := by have := hcv 0 (by omega); rw [hx] at this; exact this
          have d1 : wx.cell? ⟨b2, off2 + m * 8 + 1, none⟩ = some (.int .i64 x1) := by have := hcv 1 (by omega); rw [hx] at this; exact this
          have d2 : wx.cell? ⟨b2, off2 + m * 8 + 2, none⟩ = some (.int .i64 x2) := by have := hcv 2 (by omega); rw [hx] at this; exact this
          have d3 : wx.cell? ⟨b2, off2 + m * 8 + 3, none⟩ = some (.int .i64 x3) := by have := hcv 3 (by omega); rw [hx] at this; exact this
          have d4 : wx.cell? ⟨b2, off2 + m * 8 + 4, none⟩ = some (.int .i64 x4) := by have := hcv 4 (by omega); rw [hx] at this; exact this
          have d5 : wx.cell? ⟨b2, off2 + m * 8 + 5, none⟩ = some (.int .i64 x5) := by have := hcv 5 (by omega); rw [hx] at this; exact this
          have d6 : wx.cell? ⟨b2, off2 + m * 8 + 6, none⟩ = some (.int .i64 x6) := by have := hcv 6 (by omega); rw [hx] at this; exact this
          have d7 : wx.cell? ⟨b2, off2 + m * 8 + 7, none⟩ = some (.int .i64 x7) := by have := hcv 7 (by omega); rw [hx] at this; exact this
          obtain ⟨wv, hwv⟩ : ∃ x, x = wx.alloc (.cells #[.int .i64 x0, .int .i64 x1, .int .i64 x2, .int .i64 x3, .int .i64 x4, .int .i64 x5, .int .i64 x6, .int .i64 x7] 94) := ⟨_, rfl⟩
          have hbv : Below wx.heap.size wx wv := by rw [hwv]; exact below_alloc _ _
          obtain ⟨bv, hbv2⟩ : ∃ x, x = wx.heap.size := ⟨_, rfl⟩
          have HVb := Lib.hid (show wv.heap[bv]? = some (.cells (vrow v) 94 (0, 0)) from by rw [hwv, hbv2, hx]; exact heap_alloc_new _ _)
          have Hb5 := Lib.hid (Below.tr Hb.out hbv)
          have HR5 := Lib.hid (HR.out.keep hbv)
          have Hwv := Lib.hid hwv
          have Hbv := Lib.hid hbv2
          have Hv8 := Lib.hid h8
          clear hcv hv hx hwv hbv hbv2 h8 HR Hb
          go_upto_region 8 with fail
          rw [← Hwv.out, ← Hbv.out]
          clear Hwv Hbv d0 d1 d2 d3 d4 d5 d6 d7 hixm
          have g0 := aCell (Bx.keep HB4.out Hb5.out) 0 rfl
          go_wp2_with fail
          clear g0
          go_loopw [11, 37] (fun vx vi wz => ∃ (j : Nat) (ya : Option Addr) (yn yk : Nat), vx = .slice ya yn yk ∧ vi = .int .i64 j ∧ j ≤ n0 ∧ Below wv.heap.size wv wz ∧ OwnInts wv.heap.size wz (.slice ya yn yk) ((q.1.take j).map fun t => v.getD t.toNat 0)) (fun _ vi _ => n0 - (intOf vi).toNat)
          case atStart => exact ⟨0, none, 0, 0, rfl, rfl, Nat.zero_le _, Below.refl _ _, ownInts_nil _ _⟩
          case round =>
            generalize wr = wz at *
            obtain ⟨j, ya, yn, yk, rfl, rfl, hj, hb, ho⟩ := hrel
            have Hz := Lib.hid hb
            have HO := Lib.hid ho
            clear hb ho
            by_cases hlj : j < n0
            · have hc1 := Below.keep Hz.out (Below.keep Hb5.out (Below.keep Hb4.out (Hc3.out j hlj)))
              have hixj := Hix3.out j
              have hv := HH.out j hlj
              have HT := Lib.hid (show (q.1.take (j + 1)).map (fun t => v.getD t.toNat 0) = (q.1.take j).map (fun t => v.getD t.toNat 0) ++ [v.getD (q.1.getD j 0).toNat 0] from by
                have hlj' : j < q.1.length := by rw [← Hn0.out]; exact hlj
                have e : q.1.getD j 0 = q.1[j] := by rw [List.getD_eq_getElem?_getD, List.getElem?_eq_getElem hlj']; rfl
                rw [List.take_succ_eq_append_getElem hlj', List.map_append, e]; rfl)
              obtain ⟨t, ht⟩ : ∃ t, t = q.1.getD j 0 := ⟨_, rfl⟩
              rw [← ht] at hc1 hv HT
              clear ht
              obtain ⟨p, rfl⟩ : ∃ p : Nat, t = p := ⟨t.toNat, by omega⟩
              rw [Int.toNat_natCast] at HT
              have hp0 : (0 : Int) ≤ (p : Int) := by omega
              have hp8 : (p : Int) < 8 := by omega
              have hcp : wz.cell? ⟨bv, p, none⟩ = some (.int .i64 (v.getD p 0)) := by
                refine Below.keep Hz.out ?_
                rw [cell_of_row wv bv p _ _ _ HVb.out]
                exact vrow_at (by rw [Hv8.out]; omega)
              obtain ⟨Z, hZ⟩ : ∃ Z, Z = v.getD p 0 := ⟨_, rfl⟩
              rw [← hZ] at HT hcp
              clear hZ
              obtain ⟨w7, hw7⟩ : ∃ x, x = wz.alloc (.cells #[.int .i64 Z] 3) := ⟨_, rfl⟩
              have hb : Below wz.heap.size wz w7 := by rw [hw7]; exact below_alloc _ _
              obtain ⟨bl, hbl⟩ : ∃ x, x = wz.heap.size := ⟨_, rfl⟩
              have HL := Lib.hid (show w7.heap[bl]? = some (.cells #[.int .i64 Z] 3 (0, 0)) from by rw [hw7, hbl]; exact heap_alloc_new _ _)
              have HO7 := Lib.hid (HO.out.keep hb)
              have Hz7 := Lib.hid (Below.tr Hz.out hb)
              have Hw7 := Lib.hid hw7
              have Hbl := Lib.hid hbl
              clear hw7 hb hbl HO Hz
              have hln : ((q.1.take j).map fun t => v.getD t.toNat 0).length + 1 ≤ 100000000000 := by rw [List.length_map, List.length_take]; omega
              go_wp2_with (first | (at_builtin; rw [← Hw7.out, ← Hbl.out]; refine append_own rfl (.tmp 41) (.tmp 45) 22 rfl elemInts rfl HO7.out (m := 1) [.int .i64 Z] rfl rfl (fun k y hk => aCell HL.out k (by simpa using hk)) (ints_oneCell [Z]) hln Hz7.out.size ?_; intro v9 w9 h91 h92 h93))
              have HO9 := Lib.hid (show OwnInts wv.heap.size w9 v9 ((q.1.take (j + 1)).map fun t => v.getD t.toNat 0) from by
                rw [HT.out]
                exact OwnInts.snoc h91)
              have Hz9 := Lib.hid (Hz7.out.trans h92)
              obtain ⟨pa, pn, pk, rfl⟩ := own_slice HO9.out
              clear h91 h92 h93 hcp hc1 hixj hln
              go_wp2_with fail
              go_roundw
              case rel => exact ⟨j + 1, pa, pn, pk, rfl, by go_num, by omega, Hz9.out, HO9.out⟩
              case measure => simp [intOf]; omega
            · obtain rfl : j = n0 := by omega
              have HX := Lib.hid (show Ints wz (.slice ya yn yk) (hdR q.1 v) from by
                have := HO.out.ints
                rwa [Hn0.out, List.take_length] at this)
              have HR6 := Lib.hid (HR5.out.keep Hz.out)
              have HPt := Lib.hid (put_any R (hdR q.1 v) HS.out.1 (by have := rowS_len HS.out; omega) _ _ wz HR6.out HX.out)
              clear HO
              go_wp2_with fail
              refine HPt.out.mono ?_
              rintro e w9 ⟨pa, pn, pk, rfl, ⟨S, hS, hP⟩, hb⟩
              have HS9 := Lib.hid hS
              have HP9 := Lib.hid (HSt.out S hP)
              have Hb9 := Lib.hid (Below.tr Hb5.out (Below.tr Hz.out hb))
              clear hS hP hb
              go_wp2_with fail
              go_roundw
              case rel => exact ⟨m + 1, pa, pn, pk, S, rfl, by go_num, by omega, Hb9.out, HS9.out, HP9.out⟩
              case measure => simp [intOf]; omega
        · obtain rfl : m = N.length := by omega
          have HE := Lib.hid (show ResRR q l wx (.slice oa on ok) c from by
            rcases Hcs.out with ⟨k1, k2, k3⟩ | ⟨k1, k2, k3, k4⟩
            · have hRn : R = [] := List.eq_nil_of_length_eq_zero (by have := rowS_len HS.out; rw [k2] at this; exact Nat.le_zero.1 this)
              have := HR.out
              rw [hRn] at this
              exact .inr (.inl ⟨Hqv.out, Hlv.out, k1, k3, this⟩)
            · refine .inr (.inr ⟨Hqv.out, Hlv.out, k1, k2, R, HR.out, HS.out.1, fun z => (HS.out.2 z).trans ⟨?_, ?_⟩⟩)
              · rintro ⟨i, hi, rfl⟩
                refine ⟨N.getD i [], (k4 _).1 ?_, rfl⟩
                rw [List.getD_eq_getElem?_getD, List.getElem?_eq_getElem hi]; exact List.getElem_mem hi
              · rintro ⟨v, hv, rfl⟩
                obtain ⟨i, hi, rfl⟩ := List.getElem_of_mem ((k4 v).2 hv)
                exact ⟨i, hi, by rw [List.getD_eq_getElem?_getD, List.getElem?_eq_getElem hi]; rfl⟩)
          have Hw := Lib.hid (Below.tr Hb4.out Hb.out)
          go_wp2_with fail
          go_ret2
          exact ⟨oa, on, ok, c, rfl, HE.out, Hw.out⟩
    · have HF := Lib.hid (factsR_any l _ w2 (Hu.out.keep Hb2.out) false (decide_eq_false hl))
      have HC := Lib.hid (fun w' => show ResRR q l w' (.slice none 0 0) 2 from .inl ⟨fun h => hl h.2, rfl, rfl⟩)
      go_wp2_with fail
      refine HF.out.mono ?_
      rintro e w3 ⟨rfl, hb⟩
      have Hb3 := Lib.hid (Below.tr Hb2.out hb)
      clear hb g0 g1
      go_wp2_with fail
      go_ret2
      exact ⟨none, 0, 0, 2, rfl, HC.out _, Hb3.out⟩
  · have HV := Lib.hid (validQR_any q _ w1 (Hq.out.keep Hb1.out) false (decide_eq_false hq))
    have HC := Lib.hid (fun w' => show ResRR q l w' (.slice none 0 0) 2 from .inl ⟨fun h => hq h.1, rfl, rfl⟩)
    go_wp2_with fail
    refine HV.out.mono ?_
    rintro e w2 ⟨rfl, hb⟩
    have Hb2 := Lib.hid (Below.tr Hb1.out hb)
    clear hb g0 g1
    go_wp2_with fail
    go_ret2
    exact ⟨none, 0, 0, 2, rfl, HC.out _, Hb2.out⟩
#print axioms resultsR_any
end Go.Proofs.Ytfplmdieeabgpaa

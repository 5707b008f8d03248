/- Contracts of setOf, (*program).model, Model. -/
import Derived.Test.YthndplkjhbmfmaaRls
import Derived.Test.YthndplkjhbmfmaaRco
import Derived.Test.YthndplkjhbmfmaaRst
import Derived.BigQuiet
namespace Go.Proofs.Ythndplkjhbmfmaa
open Go.RowKit
/-- the codes of given facts -/
def GvC (fs : List RAt) (c : Int) : Prop := ∃ f, f ∈ fs ∧ pcd f = c
set_option maxRecDepth 100000 in
set_option maxHeartbeats 8000000 in
theorem setOf_any (fs : List RAt) (hf : ∀ f, f ∈ fs → FcR f) (u : Value) (w : World) (hu : Atoms w u fs) :
    Calls Try.prog 86 #[u] w fun e w' => ∃ m n, e = .returned (.map (some m)) ∧ KSet w' m n (GvC fs) ∧ Below w.heap.size w w' := by
  obtain ⟨a2, b2, off2, cap2, vs2, rfl, hle2, hia2, _, hcs2⟩ := Atoms.get hu
  obtain ⟨m, hm⟩ : ∃ x, x = fs.length := ⟨_, rfl⟩
  have Hm := Lib.hid hm
  rw [← hm] at hle2 hia2 hcs2 ⊢
  have Hix2 := Lib.hid (run_ix (P := Try.prog) (t := 39) (a := a2) (len := m) (cap := cap2) (b := b2) (off := off2) (s := 2) Try.underlying39 (by intro w; kernel_rfl) hia2)
  have Hc2 := Lib.hid hcs2
  have HV := Lib.hid hf
  obtain ⟨w1, hw1⟩ : ∃ x, x = w.alloc (.map #[] 0) := ⟨_, rfl⟩
  obtain ⟨mb, hmb⟩ : ∃ x, x = w.heap.size := ⟨_, rfl⟩
  have HS0 := Lib.hid (show KSet w1 mb 0 (fun _ => False) from by rw [hw1, hmb]; exact kset_made w)
  have HB0 := Lib.hid (show Below w.heap.size w w1 from by rw [hw1]; exact below_alloc _ _)
  have Hw1 := Lib.hid hw1
  have Hmb := Lib.hid hmb
  have hmk := fun w => run_map3 w
  clear hu hia2 hcs2 hm hw1 hmb hf
  go_enter Try.func86, Try.ntmps86
  go_upto_region 2 with fail
  rw [← Hw1.out, ← Hmb.out]
  clear Hw1 hmk
  go_wp2_with fail
  go_loopw [9] (fun vi wr => ∃ k n : Nat, vi = .int .i64 k ∧ k ≤ m ∧ KSet wr mb n (GvC (fs.take k)) ∧ Below w.heap.size w wr) (fun vi _ => m - (intOf vi).toNat)
  case atStart => exact ⟨0, 0, rfl, Nat.zero_le _, HS0.out.congr fun v => ⟨False.elim, fun ⟨f, h, _⟩ => by rw [List.take_zero] at h; cases h⟩, HB0.out⟩
  case round =>
    generalize wr = wx at *
    clear HS0 HB0
    obtain ⟨k, n, rfl, hk, hS, hB⟩ := hrel
    have HS := Lib.hid hS
    have HB := Lib.hid hB
    clear hS hB
    by_cases hlt : k < m
    · obtain ⟨q0, q1, q2⟩ := Hc2.out k hlt
      have q0 := Below.keep HB.out q0
      have q1 := Below.keep HB.out q1
      have q2 := Ints.keep q2 HB.out
      have hixk := Hix2.out k
      have hlt2 : k < fs.length := by rw [← Hm.out]; exact hlt
      have HTk := Lib.hid (show fs.take (k + 1) = fs.take k ++ [fs.getD k (0, [])] from take_get hlt2)
      have HMf := Lib.hid (show fs.getD k (0, []) ∈ fs from getA_mem hlt2)
      unfold aR at q0
      unfold aA at q2
      obtain ⟨⟨r, A⟩, hf⟩ : ∃ x, x = fs.getD k (0, []) := ⟨_, rfl⟩
      rw [← hf] at q0 q2 HTk HMf
      simp only at q0 q2
      have HFc := Lib.hid (show FcR (r, A) from HV.out _ HMf.out)
      obtain ⟨xa, xc, hxs⟩ := ints_slice q2
      rw [hxs] at q1 q2
      obtain ⟨xn, hxn⟩ : ∃ x, x = A.length := ⟨_, rfl⟩
      rw [← hxn] at q1 q2
      obtain ⟨w3, hw3⟩ : ∃ x, x = wx.alloc (.cells #[.int .i64 r, .slice xa xn xc] 50) := ⟨_, rfl⟩
      have hb3 : Below wx.heap.size wx w3 := by rw [hw3]; exact below_alloc _ _
      obtain ⟨bx, hbx⟩ : ∃ x, x = wx.heap.size := ⟨_, rfl⟩
      have HX := Lib.hid (show w3.heap[bx]? = some (.cells #[.int .i64 r, .slice xa xn xc] 50 (0, 0)) from by rw [hw3, hbx]; exact heap_alloc_new _ _)
      have HC := Lib.hid (code_any (r, A) HFc.out (.slice xa xn xc) w3 (q2.keep hb3))
      have HS3 := Lib.hid (HS.out.keep hb3)
      have HB3 := Lib.hid (Below.tr HB.out hb3)
      have Hw3 := Lib.hid hw3
      have Hbx := Lib.hid hbx
      clear hf hxs hxn hw3 hb3 hbx hlt2 q2
      go_upto_region 5 with fail
      rw [← Hw3.out, ← Hbx.out]
      clear Hw3 q0 q1 hixk
      have g0 := aCell HX.out 0 rfl
      have g1 := aCell HX.out 1 rfl
      go_wp2_with fail
      refine HC.out.mono ?_
      clear HC
      rintro e w4 ⟨rfl, hb4⟩
      have HS4 := Lib.hid (HS3.out.keep hb4)
      have HB4 := Lib.hid (Below.tr HB3.out hb4)
      have Hle4 := Lib.hid HS4.out.le
      clear hb4 g0 g1
      go_wp2_with (first | (at_mapUpdate; refine wpList_put_set rfl _ rfl _ _ _ rfl rfl rfl rfl HS4.out (kok_pcd HFc.out) (by have := Hle4.out; omega) ?_; intro w5 n5 hs5 hn5 hg5))
      have HS5 := Lib.hid (show KSet w5 mb n5 (GvC (fs.take (k + 1))) from hs5.congr fun v => by
        rw [HTk.out]
        unfold GvC
        simp only [List.mem_append, List.mem_singleton]
        constructor
        · rintro (⟨f, h1, h2⟩ | h1)
          · exact ⟨f, .inl h1, h2⟩
          · exact ⟨(r, A), .inr rfl, h1.symm⟩
        · rintro ⟨f, h1 | h1, h2⟩
          · exact .inl ⟨f, h1, h2⟩
          · subst h1; exact .inr h2.symm)
      have HB5 := Lib.hid (show Below w.heap.size w w5 from HB4.out.trans ⟨hg5.os, hg5.tape, hg5.output, hg5.size, fun j hj => hg5.block j (by have := HB4.out.size; omega) (by intro e; injection e with e; have := Hmb.out; omega)⟩)
      clear hs5 hn5 hg5
      go_wp2_with fail
      go_roundw
      case rel => exact ⟨k + 1, n5, by go_num, by omega, HS5.out, HB5.out⟩
      case measure => simp [intOf]; omega
    · obtain rfl : m = k := by omega
      have HS5 := Lib.hid (show KSet wx mb n (GvC fs) from HS.out.congr fun v => by rw [Hm.out, List.take_length])
      go_wp2_with fail
      go_ret
      exact ⟨mb, n, rfl, HS5.out, HB.out⟩
/-- does a rule count in a stratum -/
theorem cnt_any {a : Option Addr} {n cap b off i : Nat} (hia : 0 < n → a = some ⟨b, off, none⟩) (hi : i < n) {c1 c2 c3 bp sg sc h : Nat} (hh : h < 6) {x s : Int} (w : World)
    (h1 : w.cell? ⟨c1, 0, none⟩ = some (.slice (some ⟨sg, 0, none⟩) 6 sc)) (h2 : w.cell? ⟨c2, 0, none⟩ = some (.pointer (some ⟨bp, 0, none⟩))) (h3 : w.cell? ⟨c3, 0, none⟩ = some (.int .i64 s))
    (h4 : w.cell? ⟨bp, 0, none⟩ = some (.slice a n cap)) (h5 : w.cell? ⟨b, off + i * 3, none⟩ = some (.int .i64 (h : Int))) (h6 : w.cell? ⟨sg, h, none⟩ = some (.int .i64 x)) :
    Calls Try.prog 124 #[.int .i64 (i : Int), .pointer (some ⟨c1, 0, none⟩), .pointer (some ⟨c2, 0, none⟩), .pointer (some ⟨c3, 0, none⟩)] w fun e w' => e = .returned (.bool (x == s)) ∧ ∃ q, w' = w.drewN q := by
  have hix := run_ix (P := Try.prog) (t := 27) (a := a) (len := n) (cap := cap) (b := b) (off := off) (s := 3) Try.underlying27 (by intro w; kernel_rfl) hia
  have hixi := fun w => hix i w hi
  have hig := run_ix (P := Try.prog) (t := 23) (a := some ⟨sg, 0, none⟩) (len := 6) (cap := sc) (b := sg) (off := 0) (s := 1) Try.underlying23 (by intro w; kernel_rfl) (fun _ => rfl)
  simp only [Nat.mul_one, Nat.zero_add] at hig
  have higi := fun w => hig h w hh
  clear hix hig hia
  go_enter Try.func124, Try.ntmps124
  go_upto_region 1 with fail
  go_quiet (fail)
  go_wp2_with fail
  go_ret
  exact ⟨rfl, _, rfl⟩
set_option maxRecDepth 100000 in
set_option maxHeartbeats 8000000 in
theorem model_any {bnd base : Nat} {l : List RRule} {fs : List RAt} (hv : ValR l fs) {w : World} {bp : Nat} {rl : Value} {M : PMem} {S : PSt} (hP : PG base bnd w bp rl M S) (hG : Gd l fs S) (hrl : Rules w rl l) (u : Value) (hu : Atoms w u fs)
    {sg sc B0 : Nat} {L : List Int} (hL : OwnInts B0 w (.slice (some ⟨sg, 0, none⟩) 6 sc) L) (hL6 : L.length = 6) :
    Calls Try.prog 74 #[.pointer (some ⟨bp, 0, none⟩), u, .slice (some ⟨sg, 0, none⟩) 6 sc] w fun e w' => ∃ m n, e = .returned (.map (some m)) ∧ KSet w' m n (lvl S.I (cnS l L) (GvC fs) 6) ∧ Below w.heap.size w w' := by
  obtain ⟨a, b, off, cap, rfl, hle, hia, _, hcs⟩ := Rules.get hrl
  obtain ⟨wa, hwa⟩ : ∃ x, x = w.alloc (.cells #[.pointer (some ⟨bp, 0, none⟩)] 131) := ⟨_, rfl⟩
  obtain ⟨w1, hw1⟩ : ∃ x, x = wa.alloc (.cells #[.slice (some ⟨sg, 0, none⟩) 6 sc] 23) := ⟨_, rfl⟩
  obtain ⟨c2, hc2⟩ : ∃ x, x = w.heap.size := ⟨_, rfl⟩
  obtain ⟨c1, hc1⟩ : ∃ x, x = w.heap.size + 1 := ⟨_, rfl⟩
  have hba : Below w.heap.size w wa := by rw [hwa]; exact below_alloc _ _
  have hbb : Below wa.heap.size wa w1 := by rw [hw1]; exact below_alloc _ _
  have hsa : wa.heap.size = w.heap.size + 1 := by rw [hwa]; exact Array.size_push _
  have HB1 := Lib.hid (Below.tr hba hbb)
  have HX2 := Lib.hid (show w1.heap[c2]? = some (.cells #[.pointer (some ⟨bp, 0, none⟩)] 131 (0, 0)) from blk_keep2 (by rw [hwa, hc2]; exact heap_alloc_new _ _) hbb)
  have HX1 := Lib.hid (show w1.heap[c1]? = some (.cells #[.slice (some ⟨sg, 0, none⟩) 6 sc] 23 (0, 0)) from by rw [hw1, hc1, ← hsa]; exact heap_alloc_new _ _)
  have HS := Lib.hid (setOf_any fs hv.fcs u w1 (hu.keep (Below.tr hba hbb)))
  have HP := Lib.hid hP
  have HG := Lib.hid hG
  have HV := Lib.hid hv
  have HL := Lib.hid hL
  have Hcs := Lib.hid hcs
  have Hia := Lib.hid hia
  have Hwa := Lib.hid hwa
  have Hw1 := Lib.hid hw1
  have Hc1 := Lib.hid hc1
  have Hc2 := Lib.hid hc2
  obtain ⟨ua, uc, rfl⟩ := atoms_slice hu
  obtain ⟨fn, hfn⟩ : ∃ x, x = fs.length := ⟨_, rfl⟩
  rw [← hfn] at HS ⊢
  clear hP hG hv hL hcs hia hrl hu hwa hw1 hc1 hc2 hba hbb hsa hfn
  go_enter Try.func74, Try.ntmps74
  go_upto_region 1 with fail
  rw [← Hwa.out, ← Hw1.out, ← Hc1.out, ← Hc2.out]
  clear Hwa Hw1
  go_wp2_with fail
  refine HS.out.mono ?_
  clear HS
  rintro e w2 ⟨m0, n0, rfl, hk, hb2⟩
  have HK2 := Lib.hid hk
  have HB2 := Lib.hid (Below.tr HB1.out hb2)
  have HX12 := Lib.hid (blk_keep2 HX1.out hb2)
  have HX22 := Lib.hid (blk_keep2 HX2.out hb2)
  clear hk hb2 HX1 HX2 HB1
  go_wp2_with fail
  go_loopw [7, 11] (fun vm vi wr => ∃ (s m n : Nat), vm = .map (some m) ∧ vi = .int .i64 s ∧ s ≤ 6 ∧ KSet wr m n (lvl S.I (cnS l L) (GvC fs) s) ∧ Below w.heap.size w wr ∧ wr.heap[c1]? = some (.cells #[.slice (some ⟨sg, 0, none⟩) 6 sc] 23 (0, 0)) ∧ wr.heap[c2]? = some (.cells #[.pointer (some ⟨bp, 0, none⟩)] 131 (0, 0))) (fun _ vi _ => 6 - (intOf vi).toNat)
  case atStart => exact ⟨0, m0, n0, rfl, rfl, by omega, HK2.out, HB2.out, HX12.out, HX22.out⟩
  case round =>
    generalize wr = wx at *
    clear HK2 HB2 HX12 HX22
    obtain ⟨s, m, n, rfl, rfl, hs, hk, hb, hx1, hx2⟩ := hrel
    have HK := Lib.hid hk
    have HB := Lib.hid hb
    have HX1 := Lib.hid hx1
    have HX2 := Lib.hid hx2
    clear hk hb hx1 hx2
    by_cases hlt : s < 6
    · obtain ⟨w3, hw3⟩ : ∃ x, x = wx.alloc (.cells #[.int .i64 (s : Int)] 3) := ⟨_, rfl⟩
      have hb3 : Below wx.heap.size wx w3 := by rw [hw3]; exact below_alloc _ _
      obtain ⟨c3, hc3⟩ : ∃ x, x = wx.heap.size := ⟨_, rfl⟩
      have HX3 := Lib.hid (show w3.heap[c3]? = some (.cells #[.int .i64 (s : Int)] 3 (0, 0)) from by rw [hw3, hc3]; exact heap_alloc_new _ _)
      have HB3 := Lib.hid (Below.tr HB.out hb3)
      have HX13 := Lib.hid (blk_keep2 HX1.out hb3)
      have HX23 := Lib.hid (blk_keep2 HX2.out hb3)
      have HK3 := Lib.hid (HK.out.keep hb3)
      have HP3 := Lib.hid (HP.out.keep HB3.out)
      have HC := Lib.hid (conM_any HP3.out (gd_insV HV.out HG.out) HG.out.cnt HG.out.mem HG.out.le m m n n _ _ HK3.out HK3.out c1 c2 c3 (cnS l L s) (fun k hk w' hb => by
        obtain ⟨r, mm, h1, h2, h3⟩ := HG.out.gr.sound _ (List.getElem_mem hk)
        obtain ⟨q, hq⟩ : ∃ q, q = S.I[k].rule := ⟨_, rfl⟩
        rw [← hq] at h1 ⊢
        have hql : q < l.length := (List.getElem?_eq_some_iff.1 h1).1
        have hrq : rR l q = r := by rw [rR_get hql]; exact (List.getElem?_eq_some_iff.1 h1).2
        have hat := (HV.out.ats r (List.mem_of_getElem? h1)).1.1
        obtain ⟨h, hh⟩ : ∃ h : Nat, r.1.1 = (h : Int) := ⟨r.1.1.toNat, by omega⟩
        have hh6 : h < 6 := by omega
        have hbw : Below w.heap.size w w' := Below.tr HB3.out hb
        obtain ⟨_, _, _, _, e0, _, _, _, _⟩ := Hcs.out q hql
        rw [hrq, hh] at e0
        have h4 := (HP3.out.keep hb).cell (j := 0) (by omega)
        rw [if_pos rfl] at h4
        have hcell := Below.keep hbw (ownI_cellR HL.out hL6.symm (k := h) (by omega))
        have hx := cnt_any (a := a) (n := l.length) (cap := cap) (b := b) (off := off) (i := q) Hia.out hql (c1 := c1) (c2 := c2) (c3 := c3) (bp := bp) (sg := sg) (sc := sc) (h := h) hh6 (x := L.getD h 0) (s := (s : Int)) w' (aCell (blk_keep2 HX13.out hb) 0 rfl) (aCell (blk_keep2 HX23.out hb) 0 rfl) (aCell (blk_keep2 HX3.out hb) 0 rfl) h4 (Below.keep hbw e0) hcell
        have e9 : cnS l L s q = (L.getD h 0 == (s : Int)) := by
          unfold cnS
          have : l.getD q ((0, []), []) = r := by rw [List.getD_eq_getElem?_getD, h1]; rfl
          rw [this, hh, Int.toNat_natCast]
        rw [e9]
        exact hx))
      have Hw3 := Lib.hid hw3
      have Hc3 := Lib.hid hc3
      clear hw3 hb3 hc3
      go_upto_region 5 with fail
      rw [← Hw3.out, ← Hc3.out]
      clear Hw3
      have g2 := aCell HX23.out 0 rfl
      go_wp2_with fail
      refine HC.out.mono ?_
      clear HC
      rintro e w5 ⟨m5, n5, rfl, hk5, _, hb5⟩
      have HK5 := Lib.hid (show KSet w5 m5 n5 (lvl S.I (cnS l L) (GvC fs) (s + 1)) from hk5)
      have HB5 := Lib.hid (Below.tr HB3.out hb5)
      have HX15 := Lib.hid (blk_keep2 HX13.out hb5)
      have HX25 := Lib.hid (blk_keep2 HX23.out hb5)
      clear hk5 hb5 g2
      go_wp2_with fail
      go_roundw
      case rel => exact ⟨s + 1, m5, n5, rfl, by go_num, by omega, HK5.out, HB5.out, HX15.out, HX25.out⟩
      case measure => simp [intOf]; omega
    · obtain rfl : s = 6 := by omega
      go_wp2_with fail
      go_ret
      exact ⟨m, n, rfl, HK.out, HB.out⟩
/-- the model's facts -/
def ModP (l : List RRule) (fs : List RAt) (L : List Int) : RAt → Prop := mlv l L (fun f => f ∈ fs) 6
/-- what Model returns -/
def ModE (l : List RRule) (fs : List RAt) (B : Nat) (w' : World) (e : Ending) : Prop :=
  (¬ ValR l fs ∧ e = .returned (.tuple #[.slice none 0 0, .int .i64 2])) ∨ (ValR l fs ∧ NoStr l ∧ e = .returned (.tuple #[.slice none 0 0, .int .i64 8])) ∨
  (ValR l fs ∧ ∃ (L : List Int) (a : Option Addr) (n c : Nat) (cs : List RAt), Str l L ∧ e = .returned (.tuple #[.slice a n c, .int .i64 0]) ∧ OwnAtoms 50 B w' (.slice a n c) cs ∧ SrtF cs (ModP l fs L))
set_option maxRecDepth 100000 in
set_option maxHeartbeats 8000000 in
theorem Model_any (l : List RRule) (fs : List RAt) (rl u : Value) (w : World) (hrl : Rules w rl l) (hu : Atoms w u fs) :
    Calls Try.prog 28 #[rl, u] w fun e w' => ModE l fs w.heap.size w' e ∧ Below w.heap.size w w' := by
  have HR := Lib.hid hrl
  have HU := Lib.hid hu
  obtain ⟨a, cap, rfl⟩ := RdS.slice hrl
  obtain ⟨ua, uc, rfl⟩ := atoms_slice hu
  obtain ⟨n, hn⟩ : ∃ x, x = l.length := ⟨_, rfl⟩
  obtain ⟨fn, hfn⟩ : ∃ x, x = fs.length := ⟨_, rfl⟩
  rw [← hn] at HR ⊢
  rw [← hfn] at HU ⊢
  clear hn hfn hrl hu
  by_cases hv : ValR l fs
  · have HV := Lib.hid hv
    have HC := Lib.hid (valid_any l fs _ _ w HR.out HU.out true ⟨fun _ => hv, fun _ => rfl⟩)
    clear hv
    go_enter Try.func28, Try.ntmps28
    go_wp2_with fail
    refine HC.out.mono ?_
    clear HC
    rintro e w1 ⟨rfl, hb1⟩
    have HB1 := Lib.hid hb1
    have HR1 := Lib.hid (HR.out.keep hb1)
    have HU1 := Lib.hid (HU.out.keep hb1)
    have HC := Lib.hid (strata_any l HV.out.ats _ w1 HR1.out)
    clear hb1
    go_wp2_with fail
    refine HC.out.mono ?_
    clear HC
    rintro e w2 ⟨hs, hb2⟩
    have HB2 := Lib.hid (Below.tr HB1.out hb2)
    have HR2 := Lib.hid (HR1.out.keep hb2)
    have HU2 := Lib.hid (HU1.out.keep hb2)
    rcases hs with ⟨sa, sc, L, rfl, ho, hst⟩ | ⟨rfl, hno⟩
    · have hl6 := hst.sv.len
      obtain ⟨sg, rfl⟩ : ∃ sg, sa = some ⟨sg, 0, none⟩ := by
        rcases ho.2 with ⟨e, h0⟩ | ⟨g, c, cur, e, _⟩
        · rw [hl6] at h0; cases h0
        · injection e with e _ _; exact ⟨g, e⟩
      have HSt := Lib.hid hst
      have HO := Lib.hid ho
      have HC := Lib.hid (ground_any l fs HV.out _ _ w2 HR2.out HU2.out)
      have Hl6 := Lib.hid hl6
      clear hb2 ho hst hl6
      go_wp2_with fail
      refine HC.out.mono ?_
      clear HC
      rintro e w3 ⟨bp, M, S, rfl, hp, hg, hb3⟩
      have HB3 := Lib.hid (Below.tr HB2.out hb3)
      have HGd := Lib.hid hg
      have HC := Lib.hid (model_any HV.out hp hg (HR2.out.keep hb3) _ (HU2.out.keep hb3) (HO.out.keep hb3) Hl6.out)
      clear hp hg hb3
      go_wp2_with fail
      refine HC.out.mono ?_
      clear HC
      rintro e w4 ⟨m, nm, rfl, hk, hb4⟩
      have HB4 := Lib.hid (Below.tr HB3.out hb4)
      have hgf : ∀ f, f ∈ fs → FcR f ∧ S.rch (pcd f) := fun f hf => ⟨HV.out.fcs f hf, HGd.out.giv f hf⟩
      have hlm := fun c => lvl_mlv HV.out.ats HGd.out.gr (L := L) (G := fun f => f ∈ fs) hgf 6 c
      have hok := fun f => mlv_ok HV.out.ats HGd.out.gr (L := L) (G := fun f => f ∈ fs) hgf 6 f
      have HLm := Lib.hid hlm
      have HOk := Lib.hid hok
      have HC := Lib.hid (list_any (p := lvl S.I (cnS l L) (GvC fs) 6) (fun c hc => by
        obtain ⟨f, h1, h2⟩ := (hlm c).1 hc
        exact ⟨f, (hok f h1).1, h2⟩) w4 hk)
      clear hk hb4 hgf hlm hok
      go_wp2_with fail
      refine HC.out.mono ?_
      clear HC
      rintro e w5 ⟨ra, rn, rc, Lc, rfl, ⟨h1, h2⟩, ho5, hb5⟩
      have HB5 := Lib.hid (Below.tr HB4.out hb5)
      have HE := Lib.hid (show ModE l fs w.heap.size w5 (.returned (.tuple #[.slice ra rn rc, .int .i64 0])) from .inr (.inr ⟨HV.out, L, ra, rn, rc, Lc.map unpc, HSt.out, rfl, by
        obtain ⟨vs, e1, e2, e3⟩ := ho5
        exact ⟨vs, e1, owns_mono e2 HB4.out.size, fun i hi => (e3 i hi).base HB4.out.size⟩, srtF_of h2 h1 HLm.out fun f hf => (HOk.out f hf).1⟩))
      clear h1 h2 ho5 hb5
      go_wp2_with fail
      go_ret2
      exact ⟨HE.out, HB5.out⟩
    · have HNo := Lib.hid hno
      clear hb2 hno
      go_wp2_with fail
      go_ret2
      exact ⟨.inr (.inl ⟨HV.out, HNo.out, rfl⟩), HB2.out⟩
  · have HV := Lib.hid hv
    have HC := Lib.hid (valid_any l fs _ _ w HR.out HU.out false ⟨fun h => (by cases h), fun h => absurd h hv⟩)
    clear hv
    go_enter Try.func28, Try.ntmps28
    go_wp2_with fail
    refine HC.out.mono ?_
    clear HC
    rintro e w1 ⟨rfl, hb1⟩
    have HB1 := Lib.hid hb1
    clear hb1
    go_wp2_with fail
    go_ret2
    exact ⟨.inl ⟨HV.out, rfl⟩, HB1.out⟩
#print axioms Model_any
end Go.Proofs.Ythndplkjhbmfmaa

/- TopCore: for every input the law returns true. -/
import Derived.Test.YtfplmdieeabgpaaCac
import Derived.Test.YtfplmdieeabgpaaMtp
import Derived.Test.YtfplmdieeabgpaaRq
import Derived.Test.YtfplmdieeabgpaaPrd
import Derived.Test.YtfplmdieeabgpaaFrame
import Derived.Test.YtfplmdieeabgpaaRows
namespace Go.Proofs.Ytfplmdieeabgpaa
open Go.RowKit
theorem fullT {n i : Nat} : mem' (2 ^ n - 1) i ↔ i < n := by unfold mem'; rw [Nat.testBit_two_pow_sub_one]; simp
structure Bq (w wr : World) (bp : Nat) (x0 x1 : Value) : Prop where
  b : Below w.heap.size w wr
  p : Bx wr bp x0 x1
theorem Bq.keep {w wr w' : World} {bp : Nat} {x0 x1 : Value} (h : Bq w wr bp x0 x1) (hb : Below wr.heap.size wr w') : Bq w w' bp x0 x1 := ⟨Below.tr h.b hb, h.p.keep hb⟩
theorem Bq.cells {w wr : World} {bp : Nat} {x0 x1 : Value} (h : Bq w wr bp x0 x1) : (wr.cell? ⟨bp, 0, none⟩ = some x0 ∧ wr.cell? ⟨bp, 1, none⟩ = some x1) ∧ True ∧ True := ⟨⟨aCell h.p 0 rfl, aCell h.p 1 rfl⟩, trivial, trivial⟩
/-- a box of a query of the program -/
def BxT (w : World) (b : Nat) (x y : Value) : Prop := w.heap[b]? = some (.cells #[x, y] 33 (0, 0))
theorem BxT.keep {w w' : World} {b : Nat} {x y : Value} (h : BxT w b x y) (hb : Below w.heap.size w w') : BxT w' b x y := blk_keep2 h hb
theorem own_atom_at {e : TypeId} {B n c : Nat} {a : Option Addr} {w : World} {l : List HAt} (h : OwnAtoms e B w (.slice a n c) l) {k : Nat} (hk : k < l.length) :
    ∃ g ua un uc, a = some ⟨g, 0, none⟩ ∧ n = l.length ∧ w.cell? ⟨g, k * 2, none⟩ = some (.int .i64 (aR l k)) ∧ w.cell? ⟨g, k * 2 + 1, none⟩ = some (.slice ua un uc) ∧ OwnInts B w (.slice ua un uc) (aA l k) := by
  obtain ⟨vs, h1, h2, h3⟩ := h
  obtain ⟨e1, e2⟩ := atC_at h1 hk
  have h4 := h3 k hk
  obtain ⟨ua, un, uc, hu⟩ := own_slice h4
  rcases h2.2 with ⟨h5, h6⟩ | ⟨g, cap, cur, h5, _⟩
  · omega
  · injection h5 with h5 h6 h7
    subst h5 h6 h7
    refine ⟨g, ua, un, uc, rfl, rfl, ?_, ?_, by rw [← hu]; exact h4⟩
    · rw [World.ownsRow.cellAt h2 (k * 2) (by omega), e1]
    · rw [World.ownsRow.cellAt h2 (k * 2 + 1) (by omega), e2, hu]
/-- what the loop keeps -/
structure Tp (w4 wr : World) (bo : Nat) (hx bv : Value) (body : List HAt) : Prop where
  zo : bo = w4.heap.size
  c : Below w4.heap.size w4 wr
  p : BxT wr bo hx bv
  s : OwnAtoms 88 (bo + 1) wr bv body
theorem Tp.keep {w4 wr w' : World} {bo : Nat} {hx bv : Value} {body : List HAt} (h : Tp w4 wr bo hx bv body) (hb : Below wr.heap.size wr w') : Tp w4 w' bo hx bv body :=
  ⟨h.zo, Below.tr h.c hb, h.p.keep hb, h.s.keep hb⟩
theorem ownAtoms_cell {e : TypeId} {B : Nat} {w : World} {v : Value} {l : List HAt} (h : OwnAtoms e B w v l) {b j : Nat} (hb : b < B) (x : Value) : OwnAtoms e B (w.setCell ⟨b, j, none⟩ x) v l := by
  obtain ⟨vs, h1, h2, h3⟩ := h
  exact ⟨vs, h1, ownsRow_setCell_below h2 hb _, fun i hi => ownsRow_setCell_below (h3 i hi) hb _⟩
theorem Tp.put {w4 wr w' : World} {bo : Nat} {hx bv bv' : Value} {body body' : List HAt} (h : Tp w4 wr bo hx bv body) (hb : Below (bo + 1) wr w') (k : OwnAtoms 88 (bo + 1) w' bv' body') : Tp w4 (w'.setCell ⟨bo, 1, none⟩ bv') bo hx bv' body' := by
  have hz := h.zo
  have hp' : w'.heap[bo]? = some (.cells #[hx, bv] 33 (0, 0)) := (hb.block _ (by omega)).trans h.p
  refine ⟨hz, (h.c.trans (hb.mono (by omega))).setCell (by simp; omega) _, ?_, ownAtoms_cell k (by omega) _⟩
  unfold BxT
  rw [heap_setCell_same w' _ 1 _ _ bv' hp']; rfl
theorem one_acy {q : HQ} {L : Nat} (h : FinL q L) (h1 : OneL L) : Acy (Vq q.2) (fun i => i < q.2.length) :=
  acy_ext (reach_back h.r (.one h1)) fun _ => fullT
theorem acy_one {q : HQ} {L : Nat} (h : FinL q L) (a : Acy (Vq q.2) (fun i => i < q.2.length)) : OneL L :=
  done_one h.d (reach_acy h.r (acy_ext a fun _ => fullT.symm))
set_option maxRecDepth 100000 in
set_option maxHeartbeats 16000000 in
theorem topcore_any (q : HQ) (v : Value) (w : World) (hq : Qr w v q) :
    Calls Try.prog 18 #[v] w fun e w' => e = .returned (.bool true) ∧ Below w.heap.size w w' := by
  obtain ⟨h0, b0, rfl, hh, hb⟩ := hq
  have Hq := Lib.hid (show Qr w (.agg #[h0, b0]) q from ⟨_, _, rfl, hh, hb⟩)
  obtain ⟨ha, hc, rfl⟩ := ints_slice hh
  obtain ⟨ba, bc, rfl⟩ := atoms_slice hb
  obtain ⟨n0, hn0⟩ : ∃ x, x = q.1.length := ⟨_, rfl⟩
  obtain ⟨n1, hn1⟩ : ∃ x, x = q.2.length := ⟨_, rfl⟩
  rw [← hn0, ← hn1] at Hq
  rw [← hn0, ← hn1]
  obtain ⟨w1, hw1⟩ : ∃ x, x = w.alloc (.cells #[.slice ha n0 hc, .slice ba n1 bc] 25) := ⟨_, rfl⟩
  obtain ⟨bp, hbp⟩ : ∃ x, x = w.heap.size := ⟨_, rfl⟩
  have HB := Lib.hid (show Bq w w1 bp (.slice ha n0 hc) (.slice ba n1 bc) from ⟨by rw [hw1]; exact below_alloc _ _, by rw [hw1, hbp]; exact heap_alloc_new _ _⟩)
  have Hw1 := Lib.hid hw1
  have Hbpe := Lib.hid hbp
  have Hn1 := Lib.hid hn1
  have Hn0 := Lib.hid hn0
  have Hhd := Lib.hid hh
  clear hh hb hw1 hbp hn0 hn1
  go_enter Try.func18, Try.ntmps18
  go_upto_region 1 with fail
  rw [← Hw1.out, ← Hbpe.out]
  clear Hw1 Hbpe
  obtain ⟨⟨g0, g1⟩, g2, g3⟩ := HB.out.cells
  go_wp2_with fail
  refine (ofC_any _ _ (Hq.out.keep HB.out.b)).mono ?_
  rintro e w2 ⟨a1, e1, k1, a2, e2, k2, rfl, ho, hb⟩
  have HB := Lib.hid (HB.out.keep hb)
  have HQ := Lib.hid ho.qr
  clear hb ho g0 g1 g2 g3
  go_wp2_with fail
  refine (rest_any _ _ HQ.out).mono ?_
  rintro e w3 ⟨n, c1, rfl, hR, hb⟩
  have HB := Lib.hid (HB.out.keep hb)
  have HQ := Lib.hid (HQ.out.keep hb)
  have HR := Lib.hid hR
  clear hb hR HQ
  obtain ⟨⟨g0, g1⟩, g2, g3⟩ := HB.out.cells
  go_wp2_with fail
  refine (ofC_any _ _ (Hq.out.keep HB.out.b)).mono ?_
  rintro e w4 ⟨a1, e1, k1, a2, e2, k2, rfl, ho, hb⟩
  have HB := Lib.hid (HB.out.keep hb)
  have HQ := Lib.hid ho.qr
  clear hb ho g0 g1 g2 g3
  go_wp2_with fail
  refine (core_any _ _ HQ.out).mono ?_
  rintro e w5 ⟨ca, cn, ck, c2, rfl, hC, hb⟩
  have HB := Lib.hid (HB.out.keep hb)
  have HQ := Lib.hid (HQ.out.keep hb)
  have HC := Lib.hid hC
  clear hb hC HQ
  by_cases hv : QrV q
  · have HO := Lib.hid (ofQ_of hv)
    have Hv := Lib.hid hv
    have hv2 : QrV (ofQ q) := by rw [ofQ_of hv]; exact hv
    obtain ⟨rfl, L, hF, hn⟩ : c1 = 0 ∧ ∃ L : Nat, FinL q L ∧ ((OneL L ∧ n = 0) ∨ (¬ OneL L ∧ n = L)) := by
      rcases HR.out with ⟨h, _⟩ | ⟨_, h⟩
      · exact absurd hv2 h
      · rw [HO.out] at h; exact h
    obtain ⟨rfl, Lc, ⟨Sc, s1, s2, s3, hLe, s4⟩, hO⟩ : c2 = 0 ∧ ∃ L, CoreL q L ∧ OwnInts w4.heap.size w5 (.slice ca cn ck) (cz L) := by
      rcases HC.out with ⟨h, _⟩ | ⟨_, h, L, h2, h3⟩
      · exact absurd hv2 h
      · rw [HO.out] at h2; exact ⟨h, L, h2, h3⟩
    subst hLe
    have HL := Lib.hid hO.ints
    have HF := Lib.hid hF
    have HNn := Lib.hid hn
    have Hs1 := Lib.hid s1
    have Hs2 := Lib.hid s2
    have Hs3 := Lib.hid s3
    have Hs4 := Lib.hid s4
    clear HR HC hO hv hv2 s1 s2 s3 s4 hF hn
    obtain ⟨⟨g0, g1⟩, g2, g3⟩ := HB.out.cells
    go_wp2_with fail
    refine (validQR_any q _ _ (Hq.out.keep HB.out.b) true (decide_eq_true Hv.out)).mono ?_
    rintro e w6 ⟨rfl, hb⟩
    have HB := Lib.hid (HB.out.keep hb)
    have HL := Lib.hid (HL.out.keep hb)
    clear hb g0 g1 g2 g3
    obtain ⟨⟨g0, g1⟩, g2, g3⟩ := HB.out.cells
    go_wp2_with fail
    refine (cloneI_any q.1 _ _ (by have := Hv.out.1.2.2; omega) (show Ints w6 (.slice ha n0 hc) q.1 from by rw [Hn0.out]; exact Hhd.out.keep HB.out.b)).mono ?_
    rintro e w7 ⟨hx, rfl, ho, hb⟩
    have HB := Lib.hid (HB.out.keep hb)
    have HL := Lib.hid (HL.out.keep hb)
    obtain ⟨xa, xn, xk, rfl⟩ := own_slice ho
    have HX := Lib.hid ho.ints
    clear hb ho g0 g1 g2 g3
    obtain ⟨w4, hw4⟩ : ∃ x, x = w7 := ⟨_, rfl⟩
    rw [← hw4] at HB HL HX ⊢
    clear hw4
    obtain ⟨wn, hwn⟩ : ∃ wn, wn = w4.alloc (.cells #[.slice xa xn xk, .slice none 0 0] 33) := ⟨_, rfl⟩
    obtain ⟨bo, hbo⟩ : ∃ x, x = w4.heap.size := ⟨_, rfl⟩
    have HT := Lib.hid (show Tp w4 wn bo (.slice xa xn xk) (.slice none 0 0) [] from ⟨hbo, by rw [hwn]; exact below_alloc _ _, by rw [hwn, hbo]; exact heap_alloc_new _ _, ownAtoms_nil _ _ _⟩)
    have Hwn := Lib.hid hwn
    have Hbo := Lib.hid hbo
    clear hwn hbo
    go_upto_region 6 with fail
    rw [← Hwn.out, ← Hbo.out]
    clear Hwn
    obtain ⟨xb, xoff, xia, xle, xcl⟩ : ∃ xb xoff, (0 < (cz (chL Sc q.2.length)).length → ca = some ⟨xb, xoff, none⟩) ∧ cn = (chL Sc q.2.length).length ∧ ∀ i, i < cn → w4.cell? ⟨xb, xoff + i, none⟩ = some (.int .i64 ((chL Sc q.2.length).getD i 0 : Nat)) := by
      obtain ⟨a', b', off', cap', e, h1, h2, h3⟩ := Ints.get HL.out
      injection e with e1 e2 e3
      subst e1
      rw [cz_len] at e2
      refine ⟨b', off', h2, e2, fun i hi => ?_⟩
      rw [h3 i (by rw [cz_len]; omega), ← cz_get, List.getD_eq_getElem?_getD, List.getElem?_eq_getElem (by rw [cz_len]; omega)]; rfl
    have Hxc := Lib.hid xcl
    have Hcn := Lib.hid xle
    have hc5 : cn ≤ 5 := by rw [xle]; have := chL_len Sc q.2.length; have := Hv.out.1.2.1; omega
    have Hixx := Lib.hid (run_ix (P := Try.prog) (t := 22) (a := ca) (len := cn) (cap := ck) (b := xb) (off := xoff) (s := 1) Try.underlying22 (by intro w; kernel_rfl) (by rw [cz_len, ← xle] at xia; exact xia))
    simp only [Nat.mul_one] at Hixx
    obtain ⟨L9, hL9⟩ : ∃ x, x = chL Sc q.2.length := ⟨_, rfl⟩
    have HLe := Lib.hid hL9
    have HLm := Lib.hid (show ∀ i, i < cn → L9.getD i 0 < n1 from fun i hi => by
      have hi2 : i < L9.length := by rw [hL9]; omega
      have := ((mem_chL (S := Sc) (i := L9.getD i 0) q.2.length).1 (by rw [← hL9, List.getD_eq_getElem?_getD, List.getElem?_eq_getElem hi2]; exact List.getElem_mem hi2)).1
      rw [Hn1.out]; exact this)
    have HTk := Lib.hid (show ∀ i, i < cn → L9.take (i + 1) = L9.take i ++ [L9.getD i 0] from fun i hi => by rw [List.take_succ_eq_append_getElem (by rw [hL9]; omega : i < L9.length), List.getD_eq_getElem?_getD, List.getElem?_eq_getElem (by rw [hL9]; omega : i < L9.length)]; rfl)
    rw [← hL9] at Hxc
    clear xcl xle xia hL9
    go_wp2_with fail
    go_loopw [49] (fun vi wr => ∃ (k : Nat) (ba2 : Option Addr) (bn2 bk2 : Nat), vi = .int .i64 k ∧ k ≤ cn ∧ Tp w4 wr bo (.slice xa xn xk) (.slice ba2 bn2 bk2) (partA q.2 (L9.take k))) (fun vi _ => cn - (intOf vi).toNat)
    case atStart => exact ⟨0, none, 0, 0, rfl, Nat.zero_le _, HT.out⟩
    case round =>
      generalize wr = wx at *
      clear HT
      obtain ⟨k, ba2, bn2, bk2, rfl, hk, ht⟩ := hrel
      have HT := Lib.hid ht
      clear ht
      have HBx := Lib.hid (HB.out.keep HT.out.c)
      by_cases hlt : k < cn
      · have hcx := Below.keep HT.out.c (Hxc.out k hlt)
        have hixx := Hixx.out k
        have hin := HLm.out k hlt
        have HTk := Lib.hid (HTk.out k hlt)
        obtain ⟨i, hie⟩ : ∃ i, i = L9.getD k 0 := ⟨_, rfl⟩
        rw [← hie] at hcx hin HTk
        clear hie
        have HPa := Lib.hid (partA_snoc q.2 (L9.take k) i)
        obtain ⟨r, hr⟩ : ∃ t, t = aR q.2 i := ⟨_, rfl⟩
        obtain ⟨A, hA⟩ : ∃ t, t = aA q.2 i := ⟨_, rfl⟩
        rw [← hr, ← hA] at HPa
        have Hr := Lib.hid hr
        have HA := Lib.hid hA
        obtain ⟨⟨g0, g1⟩, g2, g3⟩ := HBx.out.cells
        have i0 : ¬ (i : Int) < 0 := by omega
        have i1 : ¬ (i : Int) ≥ (n1 : Int) := by omega
        clear hr hA
        go_upto_region 11 with fail
        clear g0 g1 g2 g3 hcx hixx i0 i1
        try simp only [Act.put]
        have HS0 := Lib.hid (show Bx wx.drew bp (.slice ha n0 hc) (.slice ba n1 bc) from HBx.out.p)
        have HP0 := Lib.hid (HT.out.keep (Below.refl _ _).drew)
        have Hw0 := Lib.hid (show Below w.heap.size w wx.drew from HBx.out.b.drew)
        refine wp_region_held (S := fun w' => Bx w' bp (.slice ha n0 hc) (.slice ba n1 bc)) wideK ?_
        change wpAnyH _ _ _ _ _ _ _ _ (World.drew _)
        generalize wx.drew = wd0 at *
        refine wpAnyH_take (i := 0) (v := ?_) rfl (by kernel_rfl) (by kernel_rfl) (by kernel_rfl) (fun _ _ _ h => h) (Or.inl ⟨by rfl, ?_⟩) HS0.out ?_
        rotate_left
        focus (intro w hS; clear hS; first | (go_simp; done) | (go_simp; with_reducible rfl))
        simp only [Act.put, List.getElem_toArray, List.getElem_cons_zero, List.setIfInBounds_toArray, List.set_cons_zero, List.set_cons_succ]
        refine wpAnyH_take (i := 2) (v := ?_) rfl (by kernel_rfl) (by kernel_rfl) (by kernel_rfl) (fun _ _ _ h => h) (Or.inl ⟨by rfl, ?_⟩) HS0.out ?_
        rotate_left
        focus (intro w hS; have s0 := aCell hS 0 rfl; have s1 := aCell hS 1 rfl; clear hS; first | (go_simp; done) | (go_simp; with_reducible rfl))
        simp only [Act.put, List.getElem_toArray, List.getElem_cons_zero, List.getElem_cons_succ, List.setIfInBounds_toArray, List.set_cons_zero, List.set_cons_succ]
        refine wpAnyH_take (i := 5) (v := ?_) rfl (by kernel_rfl) (by kernel_rfl) (by kernel_rfl) (fun _ _ _ h => h) (Or.inl ⟨by rfl, ?_⟩) HS0.out ?_
        rotate_left
        focus (intro w hS; clear hS; first | (go_simp; done) | (go_simp; with_reducible rfl))
        simp only [Act.put, List.getElem_toArray, List.getElem_cons_zero, List.getElem_cons_succ, List.setIfInBounds_toArray, List.set_cons_zero, List.set_cons_succ]
        refine wpAnyH_ready (rs := [1, 3]) (by kernel_rfl) (by simp) ?_
        refine RdyH.cons rfl (fun K2 hK => ?_) ?_
        · have c1 := aCell HP0.out.p 1 rfl
          go_simp
          refine hK _ _ HS0.out ?_
          clear hK K2 c1
          refine wpAnyH_ready (rs := [3]) (by kernel_rfl) (by simp) ?_
          refine RdyH.cons rfl (fun K2 hK => ?_) RdyH.nil
          go_simp
          go_at_call 20
          refine (ofC_any _ _ (Hq.out.keep Hw0.out)).mono ?_
          rintro e wd1 ⟨oa1, on1, ok1, oa2, on2, ok2, rfl, ho, hb⟩
          have HS1 := Lib.hid (HS0.out.keep hb)
          have HP1 := Lib.hid (HP0.out.keep hb)
          have Hw1 := Lib.hid (Below.tr Hw0.out hb)
          obtain ⟨oh, ob, oe, o1, o2⟩ := ho
          rw [HO.out] at o2
          have oe2 : [Value.slice oa1 on1 ok1, Value.slice oa2 on2 ok2] = [oh, ob] := by
            injection oe with oe
            exact congrArg Array.toList oe
          have oe5 : Value.slice oa2 on2 ok2 = ob := by simpa using (List.cons.inj (List.cons.inj oe2).2).1
          rw [← oe5] at o2
          obtain ⟨og, ua, un, uc, rfl, rfl, oc1, oc2, oi⟩ := own_atom_at o2 (k := i) (by rw [← Hn1.out]; exact hin)
          have HC1 := Lib.hid (show wd1.cell? ⟨og, i * 2, none⟩ = some (.int .i64 r) from by rw [Hr.out]; exact oc1)
          have HC2 := Lib.hid oc2
          have HOi := Lib.hid (show OwnInts (bo + 1) wd1 (.slice ua un uc) A from by rw [HA.out]; exact oi.base (by have := (Array.getElem?_eq_some_iff.1 HP0.out.p).1; omega))
          have Hixo := Lib.hid (run_ix (P := Try.prog) (t := 31) (a := some ⟨og, 0, none⟩) (len := q.2.length) (cap := ok2) (b := og) (off := 0) (s := 2) Try.underlying31 (by intro w; kernel_rfl) (fun _ => rfl))
          simp only [Nat.zero_add] at Hixo
          have Hfd := Lib.hid (show ∀ w : World, (Instr.field 33 (.agg #[.slice oa1 on1 ok1, .slice (some ⟨og, 0, none⟩) q.2.length ok2]) 1).run Try.prog w = .ok (.slice (some ⟨og, 0, none⟩) q.2.length ok2) w from fun _ => by kernel_rfl)
          clear hb o1 o2 oe oe2 oe5 oc1 oc2 oi
          go_simp
          refine hK _ _ HS1.out ?_
          clear hK K2
          refine wpAnyH_take (i := 4) (v := ?_) rfl (by kernel_rfl) (by kernel_rfl) (by kernel_rfl) (fun _ _ _ h => h) (Or.inl ⟨by rfl, ?_⟩) HS1.out ?_
          rotate_left
          focus (intro w hS; have s0 := Hfd.out; clear hS; first | (go_simp; done) | (go_simp; with_reducible rfl))
          simp only [Act.put, List.getElem_toArray, List.getElem_cons_zero, List.getElem_cons_succ, List.setIfInBounds_toArray, List.set_cons_zero, List.set_cons_succ]
          refine wpAnyH_take (i := 6) (v := ?_) rfl (by kernel_rfl) (by kernel_rfl) (by kernel_rfl) (fun _ _ _ h => h) (Or.inl ⟨by rfl, ?_⟩) HS1.out ?_
          rotate_left
          focus (intro w hS; have s0 := Hixo.out i; have s1 : i < q.2.length := (by rw [← Hn1.out]; exact hin); clear hS; first | (go_simp; done) | (go_simp; with_reducible rfl))
          simp only [Act.put, List.getElem_toArray, List.getElem_cons_zero, List.getElem_cons_succ, List.setIfInBounds_toArray, List.set_cons_zero, List.set_cons_succ]
          refine wpAnyH_ready (rs := [7]) (by kernel_rfl) (by simp) ?_
          refine RdyH.cons rfl (fun K2 hK => ?_) RdyH.nil
          have c1 := HC1.out
          have c2 := HC2.out
          go_simp
          refine hK _ _ HS1.out ?_
          clear hK K2 c1 c2
          refine wpAnyH_ready (rs := [8]) (by kernel_rfl) (by simp) ?_
          refine RdyH.cons rfl (fun K2 hK => ?_) RdyH.nil
          obtain ⟨wd2, hwd⟩ : ∃ y, y = wd1.alloc (.cells #[.int .i64 r, .slice ua un uc] 88) := ⟨_, rfl⟩
          have hb : Below wd1.heap.size wd1 wd2 := by rw [hwd]; exact below_alloc _ _
          obtain ⟨bl, hbl⟩ : ∃ y, y = wd1.heap.size := ⟨_, rfl⟩
          have HLb := Lib.hid (show wd2.heap[bl]? = some (.cells #[.int .i64 r, .slice ua un uc] 88 (0, 0)) from by rw [hwd, hbl]; exact heap_alloc_new _ _)
          have HS2 := Lib.hid (HS1.out.keep hb)
          have HP2 := Lib.hid (HP1.out.keep hb)
          have Hw2 := Lib.hid (Below.tr Hw1.out hb)
          have HOi := Lib.hid (HOi.out.keep hb)
          have Hwd := Lib.hid hwd
          have Hbl := Lib.hid hbl
          clear hb hwd hbl
          go_simp
          rw [← Hwd.out, ← Hbl.out]
          refine hK _ _ HS2.out ?_
          clear hK K2
          refine wpAnyH_ready (rs := [9]) (by kernel_rfl) (by simp) ?_
          refine RdyH.cons rfl (fun K2 hK => ?_) RdyH.nil
          obtain ⟨vs1, e1, e2, e3⟩ := HP2.out.s
          refine step_append_own_g rfl (.tmp 63) (.tmp 70) 31 rfl elemAtoms rfl e2 [.int .i64 r, .slice ua un uc] rfl rfl ?c1 ?c2 ?c3 ?c4 ?_
          case c1 => exact fun k y hk => aCell HLb.out k (by simpa using hk)
          case c2 => intro u hu; simp at hu; rcases hu with rfl | rfl <;> rfl
          case c3 => rw [partA_len, List.length_take]; omega
          case c4 => have := (Array.getElem?_eq_some_iff.1 HP2.out.p).1; omega
          intro v9 wd3 h91 hb hg
          obtain ⟨qa, qn, qk, rfl⟩ := row_sliceI h91
          have hz := HP2.out.zo
          have hp' : wd3.heap[bo]? = some (.cells #[.slice xa xn xk, .slice ba2 bn2 bk2] 33 (0, 0)) := (hb.block bo (by omega)).trans HP2.out.p
          have Hgk := Lib.hid (aCell hp' 1 rfl)
          have Hgf := Lib.hid (frozen_of_row wd3 _ 1 _ _ hp')
          have HN := Lib.hid (HP2.out.put (body' := partA q.2 (L9.take k) ++ [(r, A)]) hb (OwnAtoms.snoc (by decide) e1 e2 e3 HOi.out hg h91))
          have HS3 := Lib.hid (show Bx wd3 bp (.slice ha n0 hc) (.slice ba n1 bc) from (hb.block bp (by have := (Array.getElem?_eq_some_iff.1 HB.out.p).1; omega)).trans HS2.out)
          clear h91 hb hg hp' hz
          refine hK _ _ HS3.out ?_
          clear hK K2
          refine wpAnyH_take (i := 10) (v := ?_) rfl (by kernel_rfl) (by kernel_rfl) (by kernel_rfl) (fun _ _ _ h => h) (Or.inl ⟨by rfl, ?_⟩) HS3.out ?_
          rotate_left
          focus (intro w hS; clear hS; first | (go_simp; done) | (go_simp; with_reducible rfl))
          simp only [Act.put, List.getElem_toArray, List.getElem_cons_zero, List.getElem_cons_succ, List.setIfInBounds_toArray, List.set_cons_zero, List.set_cons_succ]
          refine wpAnyH_ready (rs := [11]) (by kernel_rfl) (by simp) ?_
          refine RdyH.cons rfl (fun K2 hK => ?_) RdyH.nil
          have gk := Hgk.out
          have gf := Hgf.out
          go_simp
          have HN2 := Lib.hid (show Tp w4 (wd3.setCell ⟨bo, 1, none⟩ (.slice qa qn qk)) bo (.slice xa xn xk) (.slice qa qn qk) (partA q.2 (L9.take (k + 1))) from by rw [HTk.out, HPa.out]; exact HN.out)
          refine hK _ _ (HB.out.keep HN2.out.c).p ?_
          clear hK K2
          refine wpAnyH_done (by kernel_rfl) ?_ _
          go_wp2_with fail
          go_roundw
          case rel => exact ⟨k + 1, _, _, _, by go_num, by omega, HN2.out⟩
          case measure => simp [intOf]; omega
        · refine RdyH.cons rfl (fun K2 hK => ?_) RdyH.nil
          go_simp
          go_at_call 20
          refine (ofC_any _ _ (Hq.out.keep Hw0.out)).mono ?_
          rintro e wd1 ⟨oa1, on1, ok1, oa2, on2, ok2, rfl, ho, hb⟩
          have HS1 := Lib.hid (HS0.out.keep hb)
          have HP1 := Lib.hid (HP0.out.keep hb)
          have Hw1 := Lib.hid (Below.tr Hw0.out hb)
          obtain ⟨oh, ob, oe, o1, o2⟩ := ho
          rw [HO.out] at o2
          have oe2 : [Value.slice oa1 on1 ok1, Value.slice oa2 on2 ok2] = [oh, ob] := by
            injection oe with oe
            exact congrArg Array.toList oe
          have oe5 : Value.slice oa2 on2 ok2 = ob := by simpa using (List.cons.inj (List.cons.inj oe2).2).1
          rw [← oe5] at o2
          obtain ⟨og, ua, un, uc, rfl, rfl, oc1, oc2, oi⟩ := own_atom_at o2 (k := i) (by rw [← Hn1.out]; exact hin)
          have HC1 := Lib.hid (show wd1.cell? ⟨og, i * 2, none⟩ = some (.int .i64 r) from by rw [Hr.out]; exact oc1)
          have HC2 := Lib.hid oc2
          have HOi := Lib.hid (show OwnInts (bo + 1) wd1 (.slice ua un uc) A from by rw [HA.out]; exact oi.base (by have := (Array.getElem?_eq_some_iff.1 HP0.out.p).1; omega))
          have Hixo := Lib.hid (run_ix (P := Try.prog) (t := 31) (a := some ⟨og, 0, none⟩) (len := q.2.length) (cap := ok2) (b := og) (off := 0) (s := 2) Try.underlying31 (by intro w; kernel_rfl) (fun _ => rfl))
          simp only [Nat.zero_add] at Hixo
          have Hfd := Lib.hid (show ∀ w : World, (Instr.field 33 (.agg #[.slice oa1 on1 ok1, .slice (some ⟨og, 0, none⟩) q.2.length ok2]) 1).run Try.prog w = .ok (.slice (some ⟨og, 0, none⟩) q.2.length ok2) w from fun _ => by kernel_rfl)
          clear hb o1 o2 oe oe2 oe5 oc1 oc2 oi
          go_simp
          refine hK _ _ HS1.out ?_
          clear hK K2
          refine wpAnyH_take (i := 4) (v := ?_) rfl (by kernel_rfl) (by kernel_rfl) (by kernel_rfl) (fun _ _ _ h => h) (Or.inl ⟨by rfl, ?_⟩) HS1.out ?_
          rotate_left
          focus (intro w hS; have s0 := Hfd.out; clear hS; first | (go_simp; done) | (go_simp; with_reducible rfl))
          simp only [Act.put, List.getElem_toArray, List.getElem_cons_zero, List.getElem_cons_succ, List.setIfInBounds_toArray, List.set_cons_zero, List.set_cons_succ]
          refine wpAnyH_take (i := 6) (v := ?_) rfl (by kernel_rfl) (by kernel_rfl) (by kernel_rfl) (fun _ _ _ h => h) (Or.inl ⟨by rfl, ?_⟩) HS1.out ?_
          rotate_left
          focus (intro w hS; have s0 := Hixo.out i; have s1 : i < q.2.length := (by rw [← Hn1.out]; exact hin); clear hS; first | (go_simp; done) | (go_simp; with_reducible rfl))
          simp only [Act.put, List.getElem_toArray, List.getElem_cons_zero, List.getElem_cons_succ, List.setIfInBounds_toArray, List.set_cons_zero, List.set_cons_succ]
          refine wpAnyH_ready (rs := [1, 7]) (by kernel_rfl) (by simp) ?_
          refine RdyH.cons rfl (fun K2 hK => ?_) ?_
          · have c1 := aCell HP1.out.p 1 rfl
            go_simp
            refine hK _ _ HS1.out ?_
            clear hK K2 c1
            refine wpAnyH_ready (rs := [7]) (by kernel_rfl) (by simp) ?_
            refine RdyH.cons rfl (fun K2 hK => ?_) RdyH.nil
            have c1 := HC1.out
            have c2 := HC2.out
            go_simp
            refine hK _ _ HS1.out ?_
            clear hK K2 c1 c2
            refine wpAnyH_ready (rs := [8]) (by kernel_rfl) (by simp) ?_
            refine RdyH.cons rfl (fun K2 hK => ?_) RdyH.nil
            obtain ⟨wd2, hwd⟩ : ∃ y, y = wd1.alloc (.cells #[.int .i64 r, .slice ua un uc] 88) := ⟨_, rfl⟩
            have hb : Below wd1.heap.size wd1 wd2 := by rw [hwd]; exact below_alloc _ _
            obtain ⟨bl, hbl⟩ : ∃ y, y = wd1.heap.size := ⟨_, rfl⟩
            have HLb := Lib.hid (show wd2.heap[bl]? = some (.cells #[.int .i64 r, .slice ua un uc] 88 (0, 0)) from by rw [hwd, hbl]; exact heap_alloc_new _ _)
            have HS2 := Lib.hid (HS1.out.keep hb)
            have HP2 := Lib.hid (HP1.out.keep hb)
            have Hw2 := Lib.hid (Below.tr Hw1.out hb)
            have HOi := Lib.hid (HOi.out.keep hb)
            have Hwd := Lib.hid hwd
            have Hbl := Lib.hid hbl
            clear hb hwd hbl
            go_simp
            rw [← Hwd.out, ← Hbl.out]
            refine hK _ _ HS2.out ?_
            clear hK K2
            refine wpAnyH_ready (rs := [9]) (by kernel_rfl) (by simp) ?_
            refine RdyH.cons rfl (fun K2 hK => ?_) RdyH.nil
            obtain ⟨vs1, e1, e2, e3⟩ := HP2.out.s
            refine step_append_own_g rfl (.tmp 63) (.tmp 70) 31 rfl elemAtoms rfl e2 [.int .i64 r, .slice ua un uc] rfl rfl ?c1 ?c2 ?c3 ?c4 ?_
            case c1 => exact fun k y hk => aCell HLb.out k (by simpa using hk)
            case c2 => intro u hu; simp at hu; rcases hu with rfl | rfl <;> rfl
            case c3 => rw [partA_len, List.length_take]; omega
            case c4 => have := (Array.getElem?_eq_some_iff.1 HP2.out.p).1; omega
            intro v9 wd3 h91 hb hg
            obtain ⟨qa, qn, qk, rfl⟩ := row_sliceI h91
            have hz := HP2.out.zo
            have hp' : wd3.heap[bo]? = some (.cells #[.slice xa xn xk, .slice ba2 bn2 bk2] 33 (0, 0)) := (hb.block bo (by omega)).trans HP2.out.p
            have Hgk := Lib.hid (aCell hp' 1 rfl)
            have Hgf := Lib.hid (frozen_of_row wd3 _ 1 _ _ hp')
            have HN := Lib.hid (HP2.out.put (body' := partA q.2 (L9.take k) ++ [(r, A)]) hb (OwnAtoms.snoc (by decide) e1 e2 e3 HOi.out hg h91))
            have HS3 := Lib.hid (show Bx wd3 bp (.slice ha n0 hc) (.slice ba n1 bc) from (hb.block bp (by have := (Array.getElem?_eq_some_iff.1 HB.out.p).1; omega)).trans HS2.out)
            clear h91 hb hg hp' hz
            refine hK _ _ HS3.out ?_
            clear hK K2
            refine wpAnyH_take (i := 10) (v := ?_) rfl (by kernel_rfl) (by kernel_rfl) (by kernel_rfl) (fun _ _ _ h => h) (Or.inl ⟨by rfl, ?_⟩) HS3.out ?_
            rotate_left
            focus (intro w hS; clear hS; first | (go_simp; done) | (go_simp; with_reducible rfl))
            simp only [Act.put, List.getElem_toArray, List.getElem_cons_zero, List.getElem_cons_succ, List.setIfInBounds_toArray, List.set_cons_zero, List.set_cons_succ]
            refine wpAnyH_ready (rs := [11]) (by kernel_rfl) (by simp) ?_
            refine RdyH.cons rfl (fun K2 hK => ?_) RdyH.nil
            have gk := Hgk.out
            have gf := Hgf.out
            go_simp
            have HN2 := Lib.hid (show Tp w4 (wd3.setCell ⟨bo, 1, none⟩ (.slice qa qn qk)) bo (.slice xa xn xk) (.slice qa qn qk) (partA q.2 (L9.take (k + 1))) from by rw [HTk.out, HPa.out]; exact HN.out)
            refine hK _ _ (HB.out.keep HN2.out.c).p ?_
            clear hK K2
            refine wpAnyH_done (by kernel_rfl) ?_ _
            go_wp2_with fail
            go_roundw
            case rel => exact ⟨k + 1, _, _, _, by go_num, by omega, HN2.out⟩
            case measure => simp [intOf]; omega
          · refine RdyH.cons rfl (fun K2 hK => ?_) RdyH.nil
            have c1 := HC1.out
            have c2 := HC2.out
            go_simp
            refine hK _ _ HS1.out ?_
            clear hK K2 c1 c2
            refine wpAnyH_ready (rs := [1, 8]) (by kernel_rfl) (by simp) ?_
            refine RdyH.cons rfl (fun K2 hK => ?_) ?_
            · have c1 := aCell HP1.out.p 1 rfl
              go_simp
              refine hK _ _ HS1.out ?_
              clear hK K2 c1
              refine wpAnyH_ready (rs := [8]) (by kernel_rfl) (by simp) ?_
              refine RdyH.cons rfl (fun K2 hK => ?_) RdyH.nil
              obtain ⟨wd2, hwd⟩ : ∃ y, y = wd1.alloc (.cells #[.int .i64 r, .slice ua un uc] 88) := ⟨_, rfl⟩
              have hb : Below wd1.heap.size wd1 wd2 := by rw [hwd]; exact below_alloc _ _
              obtain ⟨bl, hbl⟩ : ∃ y, y = wd1.heap.size := ⟨_, rfl⟩
              have HLb := Lib.hid (show wd2.heap[bl]? = some (.cells #[.int .i64 r, .slice ua un uc] 88 (0, 0)) from by rw [hwd, hbl]; exact heap_alloc_new _ _)
              have HS2 := Lib.hid (HS1.out.keep hb)
              have HP2 := Lib.hid (HP1.out.keep hb)
              have Hw2 := Lib.hid (Below.tr Hw1.out hb)
              have HOi := Lib.hid (HOi.out.keep hb)
              have Hwd := Lib.hid hwd
              have Hbl := Lib.hid hbl
              clear hb hwd hbl
              go_simp
              rw [← Hwd.out, ← Hbl.out]
              refine hK _ _ HS2.out ?_
              clear hK K2
              refine wpAnyH_ready (rs := [9]) (by kernel_rfl) (by simp) ?_
              refine RdyH.cons rfl (fun K2 hK => ?_) RdyH.nil
              obtain ⟨vs1, e1, e2, e3⟩ := HP2.out.s
              refine step_append_own_g rfl (.tmp 63) (.tmp 70) 31 rfl elemAtoms rfl e2 [.int .i64 r, .slice ua un uc] rfl rfl ?c1 ?c2 ?c3 ?c4 ?_
              case c1 => exact fun k y hk => aCell HLb.out k (by simpa using hk)
              case c2 => intro u hu; simp at hu; rcases hu with rfl | rfl <;> rfl
              case c3 => rw [partA_len, List.length_take]; omega
              case c4 => have := (Array.getElem?_eq_some_iff.1 HP2.out.p).1; omega
              intro v9 wd3 h91 hb hg
              obtain ⟨qa, qn, qk, rfl⟩ := row_sliceI h91
              have hz := HP2.out.zo
              have hp' : wd3.heap[bo]? = some (.cells #[.slice xa xn xk, .slice ba2 bn2 bk2] 33 (0, 0)) := (hb.block bo (by omega)).trans HP2.out.p
              have Hgk := Lib.hid (aCell hp' 1 rfl)
              have Hgf := Lib.hid (frozen_of_row wd3 _ 1 _ _ hp')
              have HN := Lib.hid (HP2.out.put (body' := partA q.2 (L9.take k) ++ [(r, A)]) hb (OwnAtoms.snoc (by decide) e1 e2 e3 HOi.out hg h91))
              have HS3 := Lib.hid (show Bx wd3 bp (.slice ha n0 hc) (.slice ba n1 bc) from (hb.block bp (by have := (Array.getElem?_eq_some_iff.1 HB.out.p).1; omega)).trans HS2.out)
              clear h91 hb hg hp' hz
              refine hK _ _ HS3.out ?_
              clear hK K2
              refine wpAnyH_take (i := 10) (v := ?_) rfl (by kernel_rfl) (by kernel_rfl) (by kernel_rfl) (fun _ _ _ h => h) (Or.inl ⟨by rfl, ?_⟩) HS3.out ?_
              rotate_left
              focus (intro w hS; clear hS; first | (go_simp; done) | (go_simp; with_reducible rfl))
              simp only [Act.put, List.getElem_toArray, List.getElem_cons_zero, List.getElem_cons_succ, List.setIfInBounds_toArray, List.set_cons_zero, List.set_cons_succ]
              refine wpAnyH_ready (rs := [11]) (by kernel_rfl) (by simp) ?_
              refine RdyH.cons rfl (fun K2 hK => ?_) RdyH.nil
              have gk := Hgk.out
              have gf := Hgf.out
              go_simp
              have HN2 := Lib.hid (show Tp w4 (wd3.setCell ⟨bo, 1, none⟩ (.slice qa qn qk)) bo (.slice xa xn xk) (.slice qa qn qk) (partA q.2 (L9.take (k + 1))) from by rw [HTk.out, HPa.out]; exact HN.out)
              refine hK _ _ (HB.out.keep HN2.out.c).p ?_
              clear hK K2
              refine wpAnyH_done (by kernel_rfl) ?_ _
              go_wp2_with fail
              go_roundw
              case rel => exact ⟨k + 1, _, _, _, by go_num, by omega, HN2.out⟩
              case measure => simp [intOf]; omega
            · refine RdyH.cons rfl (fun K2 hK => ?_) RdyH.nil
              obtain ⟨wd2, hwd⟩ : ∃ y, y = wd1.alloc (.cells #[.int .i64 r, .slice ua un uc] 88) := ⟨_, rfl⟩
              have hb : Below wd1.heap.size wd1 wd2 := by rw [hwd]; exact below_alloc _ _
              obtain ⟨bl, hbl⟩ : ∃ y, y = wd1.heap.size := ⟨_, rfl⟩
              have HLb := Lib.hid (show wd2.heap[bl]? = some (.cells #[.int .i64 r, .slice ua un uc] 88 (0, 0)) from by rw [hwd, hbl]; exact heap_alloc_new _ _)
              have HS2 := Lib.hid (HS1.out.keep hb)
              have HP2 := Lib.hid (HP1.out.keep hb)
              have Hw2 := Lib.hid (Below.tr Hw1.out hb)
              have HOi := Lib.hid (HOi.out.keep hb)
              have Hwd := Lib.hid hwd
              have Hbl := Lib.hid hbl
              clear hb hwd hbl
              go_simp
              rw [← Hwd.out, ← Hbl.out]
              refine hK _ _ HS2.out ?_
              clear hK K2
              refine wpAnyH_ready (rs := [1]) (by kernel_rfl) (by simp) ?_
              refine RdyH.cons rfl (fun K2 hK => ?_) RdyH.nil
              have c1 := aCell HP2.out.p 1 rfl
              go_simp
              refine hK _ _ HS2.out ?_
              clear hK K2 c1
              refine wpAnyH_ready (rs := [9]) (by kernel_rfl) (by simp) ?_
              refine RdyH.cons rfl (fun K2 hK => ?_) RdyH.nil
              obtain ⟨vs1, e1, e2, e3⟩ := HP2.out.s
              refine step_append_own_g rfl (.tmp 63) (.tmp 70) 31 rfl elemAtoms rfl e2 [.int .i64 r, .slice ua un uc] rfl rfl ?c1 ?c2 ?c3 ?c4 ?_
              case c1 => exact fun k y hk => aCell HLb.out k (by simpa using hk)
              case c2 => intro u hu; simp at hu; rcases hu with rfl | rfl <;> rfl
              case c3 => rw [partA_len, List.length_take]; omega
              case c4 => have := (Array.getElem?_eq_some_iff.1 HP2.out.p).1; omega
              intro v9 wd3 h91 hb hg
              obtain ⟨qa, qn, qk, rfl⟩ := row_sliceI h91
              have hz := HP2.out.zo
              have hp' : wd3.heap[bo]? = some (.cells #[.slice xa xn xk, .slice ba2 bn2 bk2] 33 (0, 0)) := (hb.block bo (by omega)).trans HP2.out.p
              have Hgk := Lib.hid (aCell hp' 1 rfl)
              have Hgf := Lib.hid (frozen_of_row wd3 _ 1 _ _ hp')
              have HN := Lib.hid (HP2.out.put (body' := partA q.2 (L9.take k) ++ [(r, A)]) hb (OwnAtoms.snoc (by decide) e1 e2 e3 HOi.out hg h91))
              have HS3 := Lib.hid (show Bx wd3 bp (.slice ha n0 hc) (.slice ba n1 bc) from (hb.block bp (by have := (Array.getElem?_eq_some_iff.1 HB.out.p).1; omega)).trans HS2.out)
              clear h91 hb hg hp' hz
              refine hK _ _ HS3.out ?_
              clear hK K2
              refine wpAnyH_take (i := 10) (v := ?_) rfl (by kernel_rfl) (by kernel_rfl) (by kernel_rfl) (fun _ _ _ h => h) (Or.inl ⟨by rfl, ?_⟩) HS3.out ?_
              rotate_left
              focus (intro w hS; clear hS; first | (go_simp; done) | (go_simp; with_reducible rfl))
              simp only [Act.put, List.getElem_toArray, List.getElem_cons_zero, List.getElem_cons_succ, List.setIfInBounds_toArray, List.set_cons_zero, List.set_cons_succ]
              refine wpAnyH_ready (rs := [11]) (by kernel_rfl) (by simp) ?_
              refine RdyH.cons rfl (fun K2 hK => ?_) RdyH.nil
              have gk := Hgk.out
              have gf := Hgf.out
              go_simp
              have HN2 := Lib.hid (show Tp w4 (wd3.setCell ⟨bo, 1, none⟩ (.slice qa qn qk)) bo (.slice xa xn xk) (.slice qa qn qk) (partA q.2 (L9.take (k + 1))) from by rw [HTk.out, HPa.out]; exact HN.out)
              refine hK _ _ (HB.out.keep HN2.out.c).p ?_
              clear hK K2
              refine wpAnyH_done (by kernel_rfl) ?_ _
              go_wp2_with fail
              go_roundw
              case rel => exact ⟨k + 1, _, _, _, by go_num, by omega, HN2.out⟩
              case measure => simp [intOf]; omega
      · obtain rfl : cn = k := by omega
        have HTe := Lib.hid (show Tp w4 wx bo (.slice xa xn xk) (.slice ba2 bn2 bk2) (partQ q Sc).2 from by
          have := HT.out
          rw [show L9.take cn = chL Sc q.2.length by rw [HLe.out, Hcn.out, List.take_length]] at this
          exact this)
        have HPq := Lib.hid (show Qr wx (.agg #[.slice xa xn xk, .slice ba2 bn2 bk2]) (partQ q Sc) from ⟨_, _, rfl, HX.out.keep HTe.out.c, HTe.out.s.atoms⟩)
        have x0 := aCell HTe.out.p 0 rfl
        have x1 := aCell HTe.out.p 1 rfl
        have HRp := Lib.hid (rest_any _ _ HPq.out)
        go_wp2_with fail
        refine HRp.out.mono ?_
        rintro e w20 ⟨m2, c3, rfl, hR2, hb⟩
        have HBy := Lib.hid (HBx.out.keep hb)
        obtain ⟨rfl, M, hM, hm2⟩ : c3 = 0 ∧ ∃ M : Nat, FinL (partQ q Sc) M ∧ ((OneL M ∧ m2 = 0) ∨ (¬ OneL M ∧ m2 = M)) := by
          rcases hR2 with ⟨h, _⟩ | ⟨_, h⟩
          · exact absurd Hs3.out.1 h
          · exact h
        have hL0 := (HF.out.lt Hv.out).2
        clear hR2 hb x0 x1
        rcases HNn.out with ⟨h1, h2⟩ | ⟨h1, h2⟩
        · have h3 : OneL M := acy_one hM (core_acy Hv.out Hs1.out Hs2.out Hs3.out Hs4.out (one_acy HF.out h1))
          obtain rfl : m2 = 0 := by
            rcases hm2 with ⟨_, h⟩ | ⟨h, _⟩
            · exact h
            · exact absurd h3 h
          have hz : (n != 0) = false := by rw [h2]; rfl
          clear hM hm2 h1 h2 h3
          go_wp2_with fail
          refine (matchesT_any _).mono ?_
          rintro e w21 ⟨rfl, hb⟩
          have HBz := Lib.hid (HBy.out.keep hb)
          clear hb
          go_wp2_with fail
          go_ret
          exact ⟨rfl, HBz.out.b⟩
        · have hz : (n != 0) = true := by rw [bne_iff_ne]; omega
          clear hM hm2 h1 h2
          go_wp2_with fail
          refine (matchesT_any _).mono ?_
          rintro e w21 ⟨rfl, hb⟩
          have HBz := Lib.hid (HBy.out.keep hb)
          clear hb
          go_wp2_with fail
          go_ret
          exact ⟨rfl, HBz.out.b⟩
  · have hv2 : ¬ QrV (ofQ q) := fun h => hv (by rw [ofQ_valid h] at h; exact h)
    obtain rfl : c1 = 2 := by
      rcases HR.out with ⟨_, _, h⟩ | ⟨h, _⟩
      · exact h
      · exact absurd h hv2
    obtain rfl : c2 = 2 := by
      rcases HC.out with ⟨_, _, h⟩ | ⟨h, _⟩
      · exact h
      · exact absurd h hv2
    clear HR HC hv hv2
    go_wp2_with fail
    refine (matchesT_any _).mono ?_
    rintro e w6 ⟨rfl, hb⟩
    have HB := Lib.hid (HB.out.keep hb)
    clear hb 
    go_wp2_with fail
    go_ret
    exact ⟨rfl, HB.out.b⟩
#print axioms topcore_any
namespace topCore
open Go.ChangeShapes Go.WideShapes Go.ChangeAt
set_option maxRecDepth 100000 in
theorem lifted (os : Os) (started : os.Started) (H : Type) (enc : TypeId × Value → H) :
    ReturnsInHanded {} Try.checked os 18 .any (Rows.topCoreSpec.pre6 enc Try.prog Try.f18 Rows.topCoreRow.domain false) (Rows.topCoreSpec.post enc Try.prog Try.f18 false true false false) := by
  refine returnsInHanded_of_change (C := Try.checked) Try.own started (by kernel_rfl) Try.func18
    (ChangeSpec.witness6 (enc := enc) (C := Try.checked) false ⟨#[], #[.agg #[.slice none 0 0, .slice none 0 0]], []⟩ 8 (by kernel_rfl) (by kernel_rfl) (by kernel_rfl) (by kernel_rfl)) ?_
  intro W base args ds gs before hval0 hW _ _
  have hval : ∀ (j : Nat) t v, Try.f18.params[j]? = some t → args[j]? = some v → Value.okWide Try.prog W .any base t v := hval0
  clear hval0
  obtain rfl : gs = [] := by obtain ⟨p, q, _, hV, _⟩ := hW; exact (trodVars_none hV).1
  have hW' := hW
  obtain ⟨p, q, hA0, hV, rfl, hfz, hnd⟩ := hW
  have hA : DataW.TrodAll enc Try.prog W 0 (fun _ => true) true Try.f18.params.toList args.toList ds p := hA0
  rw [Try.params18] at hA hval
  obtain ⟨v0, vs0, d0, ds0, p0, q0, hv0, hd0, hp0, h0, r0⟩ := trodAll_cons hA
  obtain ⟨hvn, hdn, hpn⟩ := trodAll_nil r0
  have ha : args = #[v0] := by cases args; simp_all
  have hdd : ds = [d0] := by simp_all
  rw [ha] at hval
  obtain ⟨a0, k0⟩ := qry_arg Try.underlying25 ⟨rfl, rfl⟩ ⟨rfl, rfl⟩ Try.underlying23 Try.underlying80 ⟨rfl, rfl⟩ ⟨rfl, rfl⟩ Try.underlying3 Try.underlying22 cellsI (by kernel_rfl) (by kernel_rfl) (by kernel_rfl) (by kernel_rfl) (hval 0 25 v0 rfl rfl) h0
  have hw : Calls Try.prog 18 args W (fun e W' => e = .returned (.bool true) ∧ Below W.heap.size W W') := by
    rw [ha]; exact topcore_any a0 v0 W k0
  exact hw.mono fun e W' ⟨he, hb⟩ => ⟨_, he, law_post Try.laidOut hW' rfl rfl Try.underlying4 (by rw [hdd]; rfl)
    (by kernel_rfl) hb⟩

theorem holds : Rows.TopCoreSaid :=
  OpenClaim.holds_of_wide 18 Try.f18 rfl rfl rfl rfl rfl rfl rfl ⟨rfl, rfl, rfl, rfl, rfl⟩ rfl rfl rfl rfl rfl (by kernel_rfl) Try.func18 (by kernel_rfl)
    (of_decide_eq_true (by kernel_rfl)) (by unfold Func.isWrapper; first | (rw [if_pos (by decide +kernel)]; kernel_rfl) | (rw [if_neg (by decide +kernel)]; exact ⟨rfl, rfl⟩))
    (fun os started H enc _ => lifted os started H enc)
end topCore
end Go.Proofs.Ytfplmdieeabgpaa

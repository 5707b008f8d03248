/- Contract of factsOf: the facts that matches give to an atom, each once, rising. Contract of Reduce. -/
import Derived.Test.YtfplmdieeabgpaaSrf
import Derived.Test.YtfplmdieeabgpaaKyb
import Derived.Test.YtfplmdieeabgpaaFac
import Derived.Test.YtfplmdieeabgpaaRsl
namespace Go.Proofs.Ytfplmdieeabgpaa
open Go.RowKit
theorem flatM_at : ∀ (ss : List VM) (i j : Nat) (hi : i < ss.length), j < 8 → (flatM ss)[i * 8 + j]? = some (.int .i64 (ss[i].1.getD j 0))
  | x :: ss, 0, j, _, hj => by
    have h8 := x.2.1
    rw [show flatM (x :: ss) = x.1.map (Value.int .i64) ++ flatM ss from rfl, List.getElem?_append_left (by rw [List.length_map]; omega), List.getElem?_map, Nat.zero_mul, Nat.zero_add, List.getElem?_eq_getElem (by omega)]
    simp [List.getD_eq_getElem?_getD, h8, hj]
  | x :: ss, i + 1, j, hi, hj => by
    have h8 := x.2.1
    have := flatM_at ss i j (by simpa using hi) hj
    rw [show flatM (x :: ss) = x.1.map (Value.int .i64) ++ flatM ss from rfl, List.getElem?_append_right (by rw [List.length_map]; omega), List.length_map, h8, show (i + 1) * 8 + j - 8 = i * 8 + j by omega, this]
    rfl
theorem compactNoneF (w : World) (fv : Value) : Calls Try.prog 126 #[.slice none 0 0, fv] w fun e w' => e = .returned (.slice none 0 0) ∧ w' = w := by
  go_enter Try.func126, Try.ntmps126
  go_wp2_with fail
  go_ret
  exact ⟨rfl, rfl⟩
/-- sorted and each once -/
def Risen (M N : List HAt) : Prop := Strict (N.map keyF) ∧ ∀ x, x ∈ N ↔ x ∈ M
theorem risen_of {L L' : List AV} (hp : L'.Perm L) (hs : ∀ i j, i < j → j < L'.length → cmpL (keyF (avA (L'.getD i dAV))) (keyF (avA (L'.getD j dAV))) ≤ 0) : Risen (L.map avA) ((cpA L' L'.length).map avA) := by
  have hm := cpA_map (L := L') L'.length (Nat.le_refl _)
  have hl : (L'.map avP).length = L'.length := by simp
  obtain ⟨h1, h2⟩ := cpT_strict (L := L'.map avP) (fun i j hij hj => by
    rw [hl] at hj
    rw [avP_at (by omega), avP_at hj]; exact hs i j hij hj) L'.length (by rw [hl]; exact Nat.le_refl _)
  have e : ((cpA L' L'.length).map avA).map keyF = (cpT (L'.map avP) L'.length).map (·.2) := by rw [← hm, List.map_map, List.map_map]; rfl
  refine ⟨by rw [e]; exact h1, fun x => ?_⟩
  have k1 : x ∈ (cpA L' L'.length).map avA ↔ keyF x ∈ ((cpA L' L'.length).map avA).map keyF := by
    rw [List.mem_map (f := keyF)]
    exact ⟨fun h => ⟨x, h, rfl⟩, fun ⟨y, h1, h2⟩ => by rw [← keyF_inj h2]; exact h1⟩
  rw [k1, e, h2]
  constructor
  · rintro ⟨i, hi, hx⟩
    rw [avP_at hi] at hx
    have := keyF_inj hx
    rw [this]
    refine List.mem_map.2 ⟨_, hp.mem_iff.1 ?_, rfl⟩
    rw [List.getD_eq_getElem?_getD, List.getElem?_eq_getElem hi]; exact List.getElem_mem hi
  · intro hx
    obtain ⟨p, hp2, rfl⟩ := List.mem_map.1 hx
    obtain ⟨i, hi, rfl⟩ := List.getElem_of_mem (hp.mem_iff.2 hp2)
    exact ⟨i, hi, by rw [avP_at hi, List.getD_eq_getElem?_getD, List.getElem?_eq_getElem hi]; rfl⟩
/-- SortFunc, then CompactFunc -/
theorem sortedFacts (M : List HAt) (hM : M.length ≤ 20000) (hb : ∀ x, x ∈ M → 0 ≤ x.1 ∧ x.1 ≤ 5) (base : Nat) (v : Value) (w : World) (hbs : base ≤ w.heap.size) (h : OwnAtoms 77 base w v M) :
    Calls Try.prog 124 #[v, .func (.func 125) #[] #[]] w fun e w' => e = .returned (.tuple #[]) ∧ Below base w w' ∧
      ∀ w2, Below w'.heap.size w' w2 → Calls Try.prog 126 #[v, .func (.func 127) #[] #[]] w2 fun e w3 => ∃ (a : Option Addr) (c : Nat) (N : List HAt), e = .returned (.slice a N.length c) ∧ OwnAtoms 77 base w3 (.slice a N.length c) N ∧ Risen M N ∧ Below base w2 w3 := by
  obtain ⟨vs, h1, h2, h3⟩ := h
  obtain ⟨L, rfl, hc, hi⟩ := av_of M vs base w h1 h3
  rw [hc, List.length_map] at h2
  rw [List.length_map] at hM
  have hbL : ∀ p, p ∈ L → 0 ≤ p.1.1 ∧ p.1.1 ≤ 5 := fun p hp => hb _ (List.mem_map.2 ⟨p, hp, rfl⟩)
  refine (sortF_any base L v w (by omega) h2 hi hbL).mono ?_
  rintro e w' ⟨rfl, L', hp, hs, ho, hg⟩
  have hb' : Below base w w' := grown_below h2 hg hbs
  refine ⟨rfl, hb', fun w2 hb2 => ?_⟩
  have hl : L'.length = L.length := hp.length_eq
  have ho2 := owns_keep ho hb2
  have hi2 : ∀ p, p ∈ L' → OwnInts base w2 (avV p) p.2 := fun p hp' => by
    have k := hi p (hp.mem_iff.1 hp')
    exact (show OwnInts base w' (avV p) p.2 from World.ownsRow.kept k hg (rows_apart k h2 (by decide))).keep hb2
  have hs2 : base ≤ w2.heap.size := Nat.le_trans hbs (Nat.le_trans hb'.size hb2.size)
  rcases ho2.2 with ⟨rfl, h0⟩ | ⟨g, cap, cur, rfl, _⟩
  · refine (compactNoneF w2 _).mono ?_
    rintro e w3 ⟨rfl, rfl⟩
    have hL : L = [] := List.eq_nil_of_length_eq_zero (by omega)
    subst hL
    exact ⟨none, 0, [], rfl, ownAtoms_nil _ _ _, ⟨List.Pairwise.nil, fun x => Iff.rfl⟩, Below.refl _ _⟩
  · rw [← hl] at ho2 ⊢
    refine (compactA_any base g cap L' (by omega) w2 ho2 hi2 (fun p hp' => hbL p (hp.mem_iff.1 hp'))).mono ?_
    rintro e w3 ⟨rfl, k1, k2⟩
    have hN : ((cpA L' L'.length).map avA).length = (cpA L' L'.length).length := by simp
    refine ⟨some ⟨g, 0, none⟩, cap, (cpA L' L'.length).map avA, by rw [hN], ?_, risen_of hp hs, grown_below ho2 k2 hs2⟩
    rw [hN]
    exact own_av k1 fun x hx => by
      have k := hi2 x (mem_cpA (Nat.le_refl _) hx)
      exact World.ownsRow.kept k k2 (rows_apart k ho2 (by decide))
set_option maxRecDepth 100000 in
set_option maxHeartbeats 16000000 in
theorem factsOf_any (ss : List VM) (hss : ss.length ≤ 20000) (r : Int) (A : List Int) (hr : 0 ≤ r ∧ r ≤ 5) (hA : A.length ≤ 3) (hk : ∀ i, i < A.length → -9 ≤ A.getD i 0 ∧ A.getD i 0 ≤ 7) (u : Value) (a : Option Addr) (c base : Nat) (w : World) (hu : Ints w u A) (hall : w.ownsRow base 95 8 (.slice a ss.length c) ss.length (flatM ss)) :
    Calls Try.prog 99 #[.agg #[.int .i64 r, u], .slice a ss.length c] w fun e w' => ∃ (a' : Option Addr) (c' : Nat) (N : List HAt), e = .returned (.slice a' N.length c') ∧ OwnAtoms 77 w.heap.size w' (.slice a' N.length c') N ∧ Strict (N.map keyF) ∧ (∀ x, x ∈ N ↔ ∃ v, v ∈ ss ∧ x = (r, A.map (numOf v.1))) ∧ Below w.heap.size w w' := by
  obtain ⟨ua, uc, rfl⟩ := ints_slice hu
  obtain ⟨un, hun⟩ : ∃ n, n = A.length := ⟨_, rfl⟩
  obtain ⟨n, hn⟩ : ∃ n, n = ss.length := ⟨_, rfl⟩
  obtain ⟨g, hg⟩ : ∃ g, (0 < n → a = some ⟨g, 0, none⟩) := by
    rcases hall.2 with ⟨e, h0⟩ | ⟨g, cap, cur, e, _⟩
    · exact ⟨0, fun h => by omega⟩
    · injection e with e; exact ⟨g, fun _ => e⟩
  have Hcs := Lib.hid (show ∀ i (hi : i < ss.length) j, j < 8 → w.cell? ⟨g, i * 8 + j, none⟩ = some (.int .i64 (ss[i].1.getD j 0)) from fun i hi j hj => by
    have ha := hg (by omega)
    subst ha
    rw [World.ownsRow.cellAt hall (i * 8 + j) (by omega)]; exact flatM_at ss i j hi hj)
  have Hix := Lib.hid (run_ix (P := Try.prog) (t := 126) (a := a) (len := n) (cap := c) (b := g) (off := 0) (s := 8) Try.underlying126 (by intro w; kernel_rfl) hg)
  simp only [Nat.zero_add] at Hix
  rw [← hun] at hu ⊢
  rw [← hn]
  have Hu := Lib.hid hu
  have Hn := Lib.hid hn
  have Hun := Lib.hid hun
  have hn2 : n ≤ 20000 := by omega
  obtain ⟨w1, hw1⟩ : ∃ x, x = w.alloc (.cells #[.int .i64 r, .slice ua un uc] 88) := ⟨_, rfl⟩
  have hb1 : Below w.heap.size w w1 := by rw [hw1]; exact below_alloc _ _
  obtain ⟨bs, hbs⟩ : ∃ x, x = w.heap.size := ⟨_, rfl⟩
  have HA := Lib.hid (show w1.heap[bs]? = some (.cells #[.int .i64 r, .slice ua un uc] 88 (0, 0)) from by rw [hw1, hbs]; exact heap_alloc_new w _)
  have Hz1 := Lib.hid (show w1.heap.size = w.heap.size + 1 from by rw [hw1]; simp)
  have HB := Lib.hid hb1
  have Hw1 := Lib.hid hw1
  have Hbs := Lib.hid hbs
  have Hr := Lib.hid hr
  have Hkk := Lib.hid hk
  have HA3 := Lib.hid hA
  clear hu hall hun hn hw1 hb1 hbs hr hk hA hg
  go_enter Try.func99, Try.ntmps99
  go_upto_region 1 with fail
  rw [← Hw1.out, ← Hbs.out]
  clear Hw1
  go_wp2_with fail
  go_loopw [5, 10] (fun vl vi wr => ∃ k : Nat, vi = .int .i64 k ∧ k ≤ n ∧ OwnAtoms 77 (w.heap.size + 1) wr vl ((ss.take k).map fun x => (r, A.map (numOf x.1))) ∧ Below w1.heap.size w1 wr) (fun _ vi _ => n - (intOf vi).toNat)
  case atStart => exact ⟨0, rfl, Nat.zero_le _, ownAtoms_nil _ _ _, Below.refl _ _⟩
  case round =>
    obtain ⟨k, rfl, hk, hl, hb⟩ := hrel
    have HO := Lib.hid hl
    have Hb := Lib.hid hb
    have HBw := Lib.hid (Below.tr HB.out hb)
    have Hsz := Lib.hid (show w.heap.size + 1 ≤ wr.heap.size from by have := hb.size; have := Hz1.out; omega)
    clear hl hb
    obtain ⟨la, lc, rfl⟩ := Atoms.own HO.out
    obtain ⟨M, hM⟩ : ∃ M, M = (ss.take k).map fun x => ((r, A.map (numOf x.1)) : HAt) := ⟨_, rfl⟩
    have hMl : M.length ≤ 20000 := by rw [hM, List.length_map, List.length_take]; omega
    have HM := Lib.hid hM
    rw [← hM] at HO ⊢
    clear hM
    by_cases hlt : k < n
    · have hks : k < ss.length := by rw [← Hn.out]; exact hlt
      have HT := Lib.hid (show (ss.take (k + 1)).map (fun x => ((r, A.map (numOf x.1)) : HAt)) = M ++ [(r, A.map (numOf ss[k].1))] from by rw [List.take_succ_eq_append_getElem hks, List.map_append, HM.out]; rfl)
      have hc := fun j hj => Below.keep HBw.out (Hcs.out k hks j hj)
      have hvk := ss[k].2
      obtain ⟨v, hv⟩ : ∃ v, v = ss[k].1 := ⟨_, rfl⟩
      rw [← hv] at HT hc hvk
      clear hv
      obtain ⟨a0, a1, a2, a3, a4, a5, a6, a7, rfl⟩ := eight hvk.1
      have c0 := hc 0 (by decide); have c1 := hc 1 (by decide); have c2 := hc 2 (by decide); have c3 := hc 3 (by decide); have c4 := hc 4 (by decide); have c5 := hc 5 (by decide); have c6 := hc 6 (by decide); have c7 := hc 7 (by decide)
      simp only [Nat.add_zero, List.getD_cons_zero, List.getD_cons_succ] at c0 c1 c2 c3 c4 c5 c6 c7
      have hixk := fun w => Hix.out k w hlt
      obtain ⟨wn, hwn⟩ : ∃ x, x = wr.alloc (.cells #[.int .i64 a0, .int .i64 a1, .int .i64 a2, .int .i64 a3, .int .i64 a4, .int .i64 a5, .int .i64 a6, .int .i64 a7] 95) := ⟨_, rfl⟩
      obtain ⟨bv, hbv⟩ : ∃ x, x = wr.heap.size := ⟨_, rfl⟩
      have hbn : Below wr.heap.size wr wn := by rw [hwn]; exact below_alloc _ _
      have HV := Lib.hid (show wn.heap[bv]? = some (.cells #[.int .i64 a0, .int .i64 a1, .int .i64 a2, .int .i64 a3, .int .i64 a4, .int .i64 a5, .int .i64 a6, .int .i64 a7] 95 (0, 0)) from by rw [hwn, hbv]; exact heap_alloc_new wr _)
      have HAn := Lib.hid (blk_keep2 (blk_keep2 HA.out Hb.out) hbn)
      have HOn := Lib.hid (HO.out.keep hbn)
      have Hbn := Lib.hid (Below.tr Hb.out hbn)
      have Hbwn := Lib.hid (Below.tr HBw.out hbn)
      have Hszn := Lib.hid (Nat.le_trans Hsz.out hbn.size)
      have Hwn := Lib.hid hwn
      have Hbv := Lib.hid hbv
      clear hbn hwn hbv hc
      go_upto_region 5 with fail
      rw [← Hwn.out, ← Hbv.out]
      clear Hwn Hbv c0 c1 c2 c3 c4 c5 c6 c7 hixk
      have c0 := aCell HV.out 0 rfl; have c1 := aCell HV.out 1 rfl; have c2 := aCell HV.out 2 rfl; have c3 := aCell HV.out 3 rfl; have c4 := aCell HV.out 4 rfl; have c5 := aCell HV.out 5 rfl; have c6 := aCell HV.out 6 rfl; have c7 := aCell HV.out 7 rfl
      have q0 := aCell HAn.out 0 rfl
      have q1 := aCell HAn.out 1 rfl
      go_wp2_with fail
      refine (fact_any [a0, a1, a2, a3, a4, a5, a6, a7] rfl r A (by have := HA3.out; omega) Hkk.out (.slice ua un uc) wn (Hu.out.keep Hbwn.out)).mono ?_
      rintro e w4 ⟨u', rfl, hy, hb4⟩
      obtain ⟨ya, yn, yc, rfl⟩ := own_slice hy
      obtain ⟨w7, hw7⟩ : ∃ x, x = w4.alloc (.cells #[.int .i64 r, .slice ya yn yc] 77) := ⟨_, rfl⟩
      have hb7 : Below w4.heap.size w4 w7 := by rw [hw7]; exact below_alloc _ _
      have hb47 := Below.tr hb4 hb7
      obtain ⟨vs, h1, h2, h3⟩ := HOn.out.keep hb47
      have HY7 := Lib.hid (show OwnInts (w.heap.size + 1) w7 (.slice ya yn yc) (A.map (numOf [a0, a1, a2, a3, a4, a5, a6, a7])) from (hy.keep hb7).base Hszn.out)
      have HS7 := Lib.hid (Nat.le_trans Hszn.out hb47.size)
      have HB7 := Lib.hid (Below.tr Hbn.out hb47)
      have Hcell := Lib.hid (show ∀ (j : Nat) (u : Value), [Value.int .i64 r, Value.slice ya yn yc][j]? = some u → w7.cell? ⟨w4.heap.size, j, none⟩ = some u from fun j u hj => by
        rw [hw7, cell_new]; simpa using hj)
      have H1o := Lib.hid (show ∀ u, u ∈ [Value.int .i64 r, Value.slice ya yn yc] → u.oneCell' = true from fun u hu => by simp at hu; rcases hu with rfl | rfl <;> rfl)
      have Hw7 := Lib.hid hw7
      clear hw7 hb7 hb47 hy hb4 c0 c1 c2 c3 c4 c5 c6 c7 q0 q1
      go_wp2_with (at_builtin; rw [← Hw7.out]; refine append_own rfl (.tmp 14) (.tmp 18) 26 rfl elemFacts rfl h2 [.int .i64 r, .slice ya yn yc] rfl rfl Hcell.out H1o.out (by omega) HS7.out ?_; intro v9 w9 h91 h92 h93)
      have HO9 := Lib.hid (OwnAtoms.snoc factNotInt h1 h2 h3 HY7.out h93 h91)
      have HB9 := Lib.hid (show Below w1.heap.size w1 w9 from HB7.out.trans (h92.mono (by have := Hz1.out; omega)))
      clear h91 h92 h93 h1 h2 h3
      go_roundw
      case rel => exact ⟨k + 1, by go_num, by omega, by rw [HT.out]; exact HO9.out, HB9.out⟩
      case measure => simp [intOf]; omega
    · obtain rfl : n = k := by omega
      have hMb : ∀ x, x ∈ M → 0 ≤ x.1 ∧ x.1 ≤ 5 := fun x hx => by
        rw [HM.out] at hx
        obtain ⟨y, _, rfl⟩ := List.mem_map.1 hx
        exact Hr.out
      have HS := Lib.hid (sortedFacts M hMl hMb (w.heap.size + 1) (.slice la M.length lc) wr Hsz.out HO.out)
      have HMm := Lib.hid (show ∀ x, x ∈ M ↔ ∃ v, v ∈ ss ∧ x = (r, A.map (numOf v.1)) from fun x => by
        rw [HM.out, Hn.out, List.take_length, List.mem_map]
        exact ⟨fun ⟨v, h1, h2⟩ => ⟨v, h1, h2.symm⟩, fun ⟨v, h1, h2⟩ => ⟨v, h1, h2.symm⟩⟩)
      clear hMb
      go_wp2_with fail
      refine HS.out.mono ?_
      rintro e w5 ⟨rfl, hb5, hC⟩
      have HC := Lib.hid (hC w5 (Below.refl _ _))
      have HB5 := Lib.hid (HBw.out.trans (hb5.mono (by omega)))
      clear hb5 hC HS
      go_wp2_with fail
      refine HC.out.mono ?_
      rintro e w6 ⟨a6, c6, N, rfl, hN, hR, hb6⟩
      have R := Lib.hid (show OwnAtoms 77 w.heap.size w6 (.slice a6 N.length c6) N ∧ Strict (N.map keyF) ∧ (∀ x, x ∈ N ↔ ∃ v, v ∈ ss ∧ x = (r, A.map (numOf v.1))) ∧ Below w.heap.size w w6 from
        ⟨hN.base (by omega), hR.1, fun x => (hR.2 x).trans (HMm.out x), HB5.out.trans (hb6.mono (by omega))⟩)
      clear hN hR hb6 HC
      go_wp2_with fail
      go_ret
      exact ⟨_, _, N, rfl, R.out.1, R.out.2.1, R.out.2.2.1, R.out.2.2.2⟩
#print axioms factsOf_any
#print axioms sortedFacts
/-- a slice of slices of facts, of the call's own -/
def OwnPts (base : Nat) (w : World) (v : Value) (L : List (List HAt)) : Prop := ∃ vs : List Value, vs.length = L.length ∧ w.ownsRow base 26 1 v L.length vs ∧ ∀ i, i < L.length → OwnAtoms 77 base w (vs.getD i (.bool false)) (L.getD i [])
theorem OwnPts.keep {base : Nat} {w w' : World} {v : Value} {L : List (List HAt)} (h : OwnPts base w v L) (hb : Below w.heap.size w w') : OwnPts base w' v L := by
  obtain ⟨vs, h1, h2, h3⟩ := h
  exact ⟨vs, h1, owns_keep h2 hb, fun i hi => (h3 i hi).keep hb⟩
theorem OwnPts.base {base base' : Nat} {w : World} {v : Value} {L : List (List HAt)} (h : OwnPts base w v L) (hb : base' ≤ base) : OwnPts base' w v L := by
  obtain ⟨vs, h1, h2, h3⟩ := h
  exact ⟨vs, h1, owns_base h2 hb, fun i hi => (h3 i hi).base hb⟩
theorem OwnPts.slice {base : Nat} {w : World} {v : Value} {L : List (List HAt)} (h : OwnPts base w v L) : ∃ a c, v = .slice a L.length c := by
  obtain ⟨vs, h1, h2, h3⟩ := h
  rcases h2.2 with ⟨rfl, h0⟩ | ⟨g, cap, cur, rfl, _⟩
  · exact ⟨none, 0, by rw [h0]⟩
  · exact ⟨_, _, rfl⟩
theorem ptsNil (base : Nat) (w : World) : OwnPts base w (.slice none 0 0) [] := ⟨[], rfl, World.ownsRow_nil _ _ _ _, fun i hi => by simp at hi⟩
theorem own_setNe {w : World} {base size n bo j : Nat} {e t : TypeId} {v x : Value} {xs : List Value} {cs : Array Value} {fr : Nat × Nat} (h : w.ownsRow base e size v n xs) (hb : w.heap[bo]? = some (.cells cs t fr)) (hne : t ≠ e) : (w.setCell ⟨bo, j, none⟩ x).ownsRow base e size v n xs :=
  own_block h fun g hg => heap_setCell_other w ⟨bo, j, none⟩ g x fun q => by
    rcases h.2 with ⟨rfl, _⟩ | ⟨g', cap, cur, rfl, _, hh, _⟩
    · cases hg
    · cases hg
      have q' : g' = bo := q
      subst q'
      rw [hb] at hh
      injection hh with hh
      injection hh with _ hh _
      exact hne hh
/-- one of them set -/
theorem OwnPts.put {base g n c : Nat} {w : World} {L : List (List HAt)} (h : OwnPts base w (.slice (some ⟨g, 0, none⟩) n c) L) (hn : n = L.length) {k : Nat} (hk : k < n) {u : Value} {N : List HAt} (hu : OwnAtoms 77 base w u N) :
    OwnPts base (w.setCell ⟨g, k, none⟩ u) (.slice (some ⟨g, 0, none⟩) n c) (L.set k N) := by
  subst hn
  obtain ⟨vs, h1, h2, h3⟩ := h
  obtain ⟨cs, hg⟩ : ∃ cs, w.heap[g]? = some (.cells cs 26 (0, 0)) := by
    rcases h2.2 with ⟨e, _⟩ | ⟨g', cap, cur, e, _, hh, _⟩
    · simp at e
    · injection e with e; injection e with e; injection e with e; subst e; exact ⟨_, hh⟩
  have key : ∀ {v : Value} {l : List HAt}, OwnAtoms 77 base w v l → OwnAtoms 77 base (w.setCell ⟨g, k, none⟩ u) v l := fun h => by
    obtain ⟨xs, k1, k2, k3⟩ := h
    exact ⟨xs, k1, own_setNe k2 hg (by decide), fun i hi => own_setNe (k3 i hi) hg (by decide)⟩
  obtain ⟨o1, _⟩ := h2.stored k u
  refine ⟨vs.set k u, by simp [h1], by rw [List.length_set]; exact o1, fun i hi => ?_⟩
  rw [List.length_set] at hi
  rw [List.getD_eq_getElem?_getD, List.getElem?_set, List.getD_eq_getElem?_getD, List.getElem?_set]
  by_cases e : k = i
  · subst e
    rw [if_pos rfl, if_pos (by omega), if_pos rfl, if_pos hk]
    exact key hu
  · rw [if_neg e, if_neg e, ← List.getD_eq_getElem?_getD, ← List.getD_eq_getElem?_getD]
    exact key (h3 i hi)
theorem infoPts : (Try.prog.info? 26).map (fun i => (i.zero, i.size, i.bytes)) = some (some (.slice none 0 0), 1, 24) := by kernel_rfl
theorem pts_made {base g n : Nat} {w : World} (h : w.ownsRow base 26 1 (.slice (some ⟨g, 0, none⟩) n n) n (madeCells (Value.slice none 0 0).cells (n * 1)).toList) : OwnPts base w (.slice (some ⟨g, 0, none⟩) n n) (List.replicate n []) := by
  have e : (madeCells (Value.slice none 0 0).cells (n * 1)).toList = List.replicate n (.slice none 0 0) := by
    simp only [madeCells, Value.cells, Nat.mul_one]
    apply List.ext_getElem
    · simp
    · intro i h1 h2; simp [Nat.mod_one]
  rw [e] at h
  refine ⟨List.replicate n (.slice none 0 0), by simp, by rw [List.length_replicate]; exact h, fun i hi => ?_⟩
  rw [List.length_replicate] at hi
  rw [List.getD_eq_getElem?_getD, List.getElem?_replicate, if_pos hi, List.getD_eq_getElem?_getD, List.getElem?_replicate, if_pos hi]
  exact ownAtoms_nil _ _ _
/-- the facts that the matches of a query give to its atom i -/
def Part (q : HQ) (l : List HAt) (i : Nat) (N : List HAt) : Prop := Strict (N.map keyF) ∧ ∀ x, x ∈ N ↔ ∃ v, MaP l q.2 v ∧ x = (aR q.2 i, (aA q.2 i).map (numOf v))
def RedE (q : HQ) (l : List HAt) (base : Nat) (w : World) (u : Value) (c : Int) : Prop :=
  (¬ (QrV q ∧ FsV l) ∧ u = .slice none 0 0 ∧ c = 2) ∨ (QrV q ∧ FsV l ∧ Big l q.2 ∧ u = .slice none 0 0 ∧ c = 3) ∨
    (QrV q ∧ FsV l ∧ ¬ Big l q.2 ∧ c = 0 ∧ ∃ P, OwnPts base w u P ∧ P.length = q.2.length ∧ ∀ i, i < q.2.length → Part q l i (P.getD i []))
theorem RedE.keep {q : HQ} {l : List HAt} {base : Nat} {w w' : World} {u : Value} {c : Int} (h : RedE q l base w u c) (hb : Below w.heap.size w w') : RedE q l base w' u c := by
  rcases h with h | h | ⟨h1, h2, h3, h4, P, h5, h6⟩
  · exact .inl h
  · exact .inr (.inl h)
  · exact .inr (.inr ⟨h1, h2, h3, h4, P, h5.keep hb, h6⟩)
theorem vmaps {ss : List VM} {p : List Int → Prop} (h : ∀ v, v ∈ ss.map (·.1) ↔ p v) {r : Int} {A : List Int} (x : HAt) : (∃ v, v ∈ ss ∧ x = (r, A.map (numOf v.1))) ↔ ∃ v, p v ∧ x = (r, A.map (numOf v)) := by
  constructor
  · rintro ⟨v, h1, h2⟩; exact ⟨v.1, (h _).1 (List.mem_map.2 ⟨v, h1, rfl⟩), h2⟩
  · rintro ⟨v, h1, h2⟩
    obtain ⟨y, hy, rfl⟩ := List.mem_map.1 ((h v).2 h1)
    exact ⟨y, hy, h2⟩
set_option maxRecDepth 100000 in
set_option maxHeartbeats 16000000 in
theorem reduce_any {q : HQ} {l : List HAt} (v u : Value) (w : World) (hq : Qr w v q) (hu : Atoms w u l) :
    Calls Try.prog 46 #[v, u] w fun e w' => ∃ a n k c, e = .returned (.tuple #[.slice a n k, .int .i64 c]) ∧ RedE q l w.heap.size w' (.slice a n k) c ∧ Below w.heap.size w w' := by
  obtain ⟨h0, b0, rfl, hh, hb⟩ := hq
  obtain ⟨w1, hw1⟩ : ∃ w1, w1 = w.alloc (.cells #[h0, b0] 33) := ⟨_, rfl⟩
  have hb1 : Below w.heap.size w w1 := by rw [hw1]; exact below_alloc _ _
  obtain ⟨bq, hbq⟩ : ∃ x, x = w.heap.size := ⟨_, rfl⟩
  have hM1 : w1.heap[bq]? = some (.cells #[h0, b0] 33 (0, 0)) := by rw [hw1, hbq]; exact heap_alloc_new w _
  have HV := Lib.hid (findAll_any (q := q) (l := l) (.agg #[h0, b0]) u w1 ⟨h0, b0, rfl, hh.keep hb1, hb.keep hb1⟩ (hu.keep hb1))
  obtain ⟨ha, hc, rfl⟩ := ints_slice hh
  obtain ⟨a, b, off, cap, vs, rfl, hle, hia, hcap, hcs⟩ := Atoms.get hb
  obtain ⟨ua, uc, rfl⟩ := atoms_slice hu
  obtain ⟨m, hm⟩ : ∃ m, m = q.2.length := ⟨_, rfl⟩
  rw [← hm] at hia hcap hcs hle HV hw1 hM1 ⊢
  have Hix := Lib.hid (run_ix (P := Try.prog) (t := 31) (a := a) (len := m) (cap := cap) (b := b) (off := off) (s := 2) Try.underlying31 (by intro w; kernel_rfl) hia)
  have Hcs := Lib.hid hcs
  have Hm := Lib.hid hm
  have Hb1 := Lib.hid hb1
  have Hw1 := Lib.hid hw1
  have Hbq := Lib.hid hbq
  have HM1 := Lib.hid hM1
  have Hs1 := Lib.hid (show w1.heap.size = w.heap.size + 1 by rw [hw1]; simp)
  clear hh hb hb1 hw1 hu hbq hM1 hm hia hcap hcs hle
  have g0 := aCell HM1.out 0 rfl
  have g1 := aCell HM1.out 1 rfl
  go_enter Try.func46, Try.ntmps46
  go_upto_region 1 with fail
  rw [← Hw1.out, ← Hbq.out]
  clear Hw1
  go_wp2_with fail
  refine HV.out.mono ?_
  rintro e w2 ⟨hE, hb2⟩
  have Hb2 := Lib.hid (Below.tr Hb1.out hb2)
  have HM2 := Lib.hid (blk_keep2 HM1.out hb2)
  clear hb2 g0 g1 HV
  rcases hE with ⟨hn, rfl⟩ | ⟨hq, hf, ⟨hB, rfl⟩ | ⟨hB, bm, n, rfl, hge, hms⟩⟩
  · have R := Lib.hid (fun w2 => show RedE q l w.heap.size w2 (.slice none 0 0) 2 from .inl ⟨hn, rfl, rfl⟩)
    clear hn
    go_wp2_with fail
    go_ret2
    exact ⟨_, _, _, _, rfl, R.out _, Hb2.out⟩
  · have R := Lib.hid (fun w2 => show RedE q l w.heap.size w2 (.slice none 0 0) 3 from .inr (.inl ⟨hq, hf, hB, rfl, rfl⟩))
    clear hB hq hf
    go_wp2_with fail
    go_ret2
    exact ⟨_, _, _, _, rfl, R.out _, Hb2.out⟩
  · have Hn := Lib.hid (small_of hq hB hms)
    have Hq := Lib.hid hq
    have hm5 : m ≤ 5 := by rw [Hm.out]; exact hq.1.2.1
    have hm1 : 1 ≤ m := by rw [Hm.out]; exact hq.1.1
    have R := Lib.hid (fun u w2 (h1 : ∃ P, OwnPts w.heap.size w2 u P ∧ P.length = q.2.length ∧ ∀ i, i < q.2.length → Part q l i (P.getD i [])) => show RedE q l w.heap.size w2 u 0 from .inr (.inr ⟨hq, hf, hB, rfl, h1⟩))
    have HK := Lib.hid ((callsIn_wide (n := 1)).1 (keys_in 1 (some bm) w2))
    obtain ⟨w3, hw3⟩ : ∃ x, x = w2.alloc (.cells #[.map (some bm)] 91) := ⟨_, rfl⟩
    have hb3 : Below w2.heap.size w2 w3 := by rw [hw3]; exact below_alloc _ _
    have HC := Lib.hid (collect_any (p := MaP l q.2) (nn := n) (b := bm) w3 (hms.keep hb3) (by have := Hn.out; omega) w2.heap.size (by rw [hw3]; simp) (by rw [hw3]; exact cell_new w2 _ _ 0))
    have Hw3 := Lib.hid hw3
    have Hb3 := Lib.hid (Below.tr Hb2.out hb3)
    have HM3 := Lib.hid (blk_keep2 HM2.out hb3)
    have Hss := Lib.hid (fun (ss : List VM) (h1 : (ss.map (·.1)).Nodup) (h2 : ∀ v, v ∈ ss.map (·.1) ↔ MaP l q.2 v) => show ss.length ≤ 20000 from by
      have := hms.len h1 h2
      rw [List.length_map] at this
      have := Hn.out
      omega)
    clear hq hf hB hge hms hw3 hb3
    go_wp2_with fail
    refine HK.out.mono ?_
    rintro e w4 ⟨rfl, rfl⟩
    rw [← Hw3.out]
    clear Hw3 HK
    go_wp2_with fail
    refine HC.out.mono ?_
    rintro e w5 ⟨aa, ac, ss, rfl, ⟨hs1, hs2⟩, hrow, hb5⟩
    have Hs20 := Lib.hid (Hss.out ss hs1 hs2)
    have Hmem := Lib.hid hs2
    have Hrow := Lib.hid hrow
    have Hb5 := Lib.hid (Below.tr Hb3.out hb5)
    have HM5 := Lib.hid (blk_keep2 HM3.out hb5)
    obtain ⟨sn, hsn⟩ : ∃ x, x = ss.length := ⟨_, rfl⟩
    have Hsn := Lib.hid hsn
    rw [← hsn] at Hrow ⊢
    clear hs1 hs2 hrow hb5 hsn HC Hss
    obtain ⟨i0, hi, hz, hzz, hby0⟩ := info_parts infoPts
    have Hby := Lib.hid (show i0.bytes * m ≤ 281474976710656 by rw [hby0]; omega)
    have Hi := Lib.hid hi
    have Hz := Lib.hid hz
    have Hzz := Lib.hid hzz
    clear hi hz hzz hby0
    have g0 := aCell HM5.out 0 rfl
    have g1 := aCell HM5.out 1 rfl
    go_upto_region 6 with (first | (refine wpList_make_full _ rfl (.tmp 26) (.tmp 26) 66 rfl w5.heap.size 26 i0 (.slice none 0 0) 1 Try.underlying66 Hi.out Hz.out Hzz.out .i64 .i64 _ _ m rfl rfl rfl rfl Hby.out (by unfold maxLen; omega) (Nat.le_refl _) ?_; intro w6 hown hgr))
    have hb6 : Below w5.heap.size w5 w6 := ⟨hgr.os, hgr.tape, hgr.output, hgr.size, fun k hk => hgr.block k hk (by simp)⟩
    obtain ⟨gp, hgp⟩ : ∃ x, x = w5.heap.size := ⟨_, rfl⟩
    rw [← hgp] at hown ⊢
    have HP6 := Lib.hid (pts_made hown)
    have Hgp := Lib.hid hgp
    have HB6 := Lib.hid hb6
    have g0 := aCell (blk_keep2 HM5.out hb6) 0 rfl
    have g1 := aCell (blk_keep2 HM5.out hb6) 1 rfl
    clear hown hgr hgp hb6
    have Hixp := Lib.hid (run_ix (P := Try.prog) (t := 66) (a := some ⟨gp, 0, none⟩) (len := m) (cap := m) (b := gp) (off := 0) (s := 1) Try.underlying66 (by intro w; kernel_rfl) (fun _ => rfl))
    simp only [Nat.zero_add, Nat.mul_one] at Hixp
    go_wp2_with fail
    clear g0 g1
    go_loopw [31] (fun vi wr => ∃ (k : Nat) (P : List (List HAt)), vi = .int .i64 k ∧ k ≤ m ∧ P.length = m ∧ (∀ i, i < k → Part q l i (P.getD i [])) ∧ OwnPts gp wr (.slice (some ⟨gp, 0, none⟩) m m) P ∧ Below w5.heap.size w5 wr) (fun vi _ => m - (intOf vi).toNat)
    case atStart => exact ⟨0, _, rfl, Nat.zero_le _, by simp, fun i hi => by omega, HP6.out, HB6.out⟩
    case round =>
      clear HP6 HB6
      obtain ⟨k, P, rfl, hk, hPl, hPg, hp, hb⟩ := hrel
      have HP := Lib.hid hp
      have Hb := Lib.hid hb
      have HPg := Lib.hid hPg
      have HPl := Lib.hid hPl
      have HBw := Lib.hid (Below.tr Hb5.out hb)
      clear hp hb hPg hPl
      by_cases hlt : k < m
      · have hc1 := Below.keep HBw.out (Hcs.out k hlt).1
        have hc2 := Below.keep HBw.out (Hcs.out k hlt).2.1
        have hi := Ints.keep (Hcs.out k hlt).2.2 HBw.out
        have hat := Hq.out.2.1 k (by rw [← Hm.out]; exact hlt)
        obtain ⟨xa, xc, hu⟩ := ints_slice hi
        rw [hu] at hc2 hi
        clear hu
        have HPk := Lib.hid (show ∀ N, Strict (N.map keyF) ∧ (∀ x, x ∈ N ↔ ∃ v, MaP l q.2 v ∧ x = (aR q.2 k, (aA q.2 k).map (numOf v))) → Part q l k N from fun N h => h)
        obtain ⟨r, hr⟩ : ∃ t, t = aR q.2 k := ⟨_, rfl⟩
        obtain ⟨A, hA⟩ : ∃ t, t = aA q.2 k := ⟨_, rfl⟩
        rw [← hr] at hc1 hat HPk
        rw [← hA] at hc2 hi hat HPk
        clear hr hA
        obtain ⟨xn, hxn⟩ : ∃ t, t = A.length := ⟨_, rfl⟩
        rw [← hxn] at hc2 hi
        have Hat := Lib.hid hat
        have hixk := fun w => Hix.out k w hlt
        obtain ⟨wn, hwn⟩ : ∃ x, x = wr.alloc (.cells #[.int .i64 r, .slice xa xn xc] 88) := ⟨_, rfl⟩
        have hbn : Below wr.heap.size wr wn := by rw [hwn]; exact below_alloc _ _
        obtain ⟨bx, hbx⟩ : ∃ x, x = wr.heap.size := ⟨_, rfl⟩
        have HX := Lib.hid (show wn.heap[bx]? = some (.cells #[.int .i64 r, .slice xa xn xc] 88 (0, 0)) from by rw [hwn, hbx]; exact heap_alloc_new wr _)
        have Hbn := Lib.hid (Below.tr Hb.out hbn)
        have HPn := Lib.hid (HP.out.keep hbn)
        have hF := factsOf_any ss Hs20.out r A hat.1 hat.2.1.2 (fun i hi => hat.2.2 _ (by rw [List.getD_eq_getElem?_getD, List.getElem?_eq_getElem hi]; exact List.getElem_mem hi)) (.slice xa xn xc) aa ac w3.heap.size wn (hi.keep hbn) (by rw [← Hsn.out]; exact owns_keep Hrow.out (Below.tr Hb.out hbn))
        rw [← Hsn.out] at hF
        have HF := Lib.hid hF
        have Hwn := Lib.hid hwn
        have Hbx := Lib.hid hbx
        clear hat hi hxn hwn hbn hbx hF
        go_upto_region 9 with fail
        rw [← Hwn.out, ← Hbx.out]
        clear Hwn Hbx hc1 hc2 hixk
        have g0 := aCell HX.out 0 rfl
        have g1 := aCell HX.out 1 rfl
        go_wp2_with fail
        refine HF.out.mono ?_
        rintro e w8 ⟨a8, c8, N, rfl, hN, hS, hM, hb8⟩
        have HPt := Lib.hid (HPk.out N ⟨hS, fun x => (hM x).trans (vmaps Hmem.out x)⟩)
        have HP8 := Lib.hid (HPn.out.keep hb8)
        have Hb8 := Lib.hid (Below.tr Hbn.out hb8)
        have HN := Lib.hid (hN.base (show gp ≤ wn.heap.size by rw [Hgp.out]; exact Hbn.out.size))
        clear hN hS hM hb8 g0 g1
        have HPu := Lib.hid (HP8.out.put HPl.out.symm hlt HN.out)
        obtain ⟨pvs, q1, q2, q3⟩ := HP8.out
        rw [HPl.out] at q2
        have hcp := q2.cellAt k (by omega)
        rw [List.getElem?_eq_getElem (by rw [q1, HPl.out]; exact hlt)] at hcp
        have hfz := q2.frozenAt k
        obtain ⟨cv, hcv⟩ : ∃ x, x = pvs[k]'(by rw [q1, HPl.out]; exact hlt) := ⟨_, rfl⟩
        rw [← hcv] at hcp
        clear hcv q2 q3
        have hixp := fun w => Hixp.out k w hlt
        obtain ⟨nn, hnn⟩ : ∃ t, t = N.length := ⟨_, rfl⟩
        rw [← hnn] at HPu ⊢
        have HBu := Lib.hid (show Below w5.heap.size w5 (w8.setCell ⟨gp, k, none⟩ (.slice a8 nn c8)) from Hb8.out.setCell (show w5.heap.size ≤ gp by rw [Hgp.out]; exact Nat.le_refl _) _)
        have HPg2 := Lib.hid (show (P.set k N).length = m ∧ ∀ i, i < k + 1 → Part q l i ((P.set k N).getD i []) from by
          refine ⟨by rw [List.length_set]; exact HPl.out, fun i hi => ?_⟩
          rw [List.getD_eq_getElem?_getD, List.getElem?_set]
          by_cases e : k = i
          · subst e; rw [if_pos rfl, if_pos (by rw [HPl.out]; exact hlt)]; exact HPt.out
          · rw [if_neg e, ← List.getD_eq_getElem?_getD]; exact HPg.out i (by omega))
        clear hnn q1
        go_wp2_with fail
        clear hcp hfz hixp
        go_roundw
        case rel => exact ⟨k + 1, _, by go_num, by omega, HPg2.out.1, HPg2.out.2, HPu.out, HBu.out⟩
        case measure => simp [intOf]; omega
      · obtain rfl : m = k := by omega
        have R' := Lib.hid (R.out (.slice (some ⟨gp, 0, none⟩) m m) wr ⟨P, HP.out.base (by rw [Hgp.out]; exact Hb5.out.size), by rw [HPl.out, Hm.out], fun i hi => HPg.out i (by rw [Hm.out]; exact hi)⟩)
        clear R
        go_wp2_with fail
        go_ret2
        exact ⟨_, _, _, _, rfl, R'.out, HBw.out⟩
#print axioms reduce_any
end Go.Proofs.Ytfplmdieeabgpaa

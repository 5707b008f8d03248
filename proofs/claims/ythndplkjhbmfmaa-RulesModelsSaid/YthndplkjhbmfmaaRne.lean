/- Contract of needs: the literals without Not. -/
import Derived.Test.YthndplkjhbmfmaaRre
import Derived.Test.YthndplkjhbmfmaaRst
namespace Go.Proofs.Ythndplkjhbmfmaa
open Go.RowKit
theorem infoAtom : (Try.prog.info? 94).map (fun i => (i.zero, i.size, i.bytes)) = some (some (.agg #[.int .i64 0, .slice none 0 0]), 2, 32) := by kernel_rfl
theorem elemAtoms : Elem Try.prog 197 94 2 32 := elem_of Try.underlying197 infoAtom rfl (by omega) (by omega)
theorem atomNotInt : 94 ≠ 3 := by decide
/-- own atoms whose arguments lie in an older world -/
def SubB (e : TypeId) (w0 : World) (B : Nat) (w : World) (v : Value) (l : List HAt) : Prop := ∃ vs : List Value, vs.length = l.length ∧ w.ownsRow B e 2 v l.length (atC l vs) ∧ ∀ i, i < l.length → Ints w0 (vs.getD i (.bool false)) (aA l i)
theorem SubB.keep {e : TypeId} {w0 w w' : World} {B : Nat} {v : Value} {l : List HAt} (h : SubB e w0 B w v l) (hb : Below w.heap.size w w') : SubB e w0 B w' v l := by
  obtain ⟨vs, h1, h2, h3⟩ := h
  exact ⟨vs, h1, owns_keep h2 hb, h3⟩
theorem SubB.atoms {e : TypeId} {w0 w : World} {B : Nat} {v : Value} {l : List HAt} (h : SubB e w0 B w v l) (hb : Below w0.heap.size w0 w) : Atoms w v l := by
  obtain ⟨vs, h1, h2, h3⟩ := h
  exact ⟨vs, h1, owns_rd h2, fun i hi => (h3 i hi).keep hb⟩
theorem SubB.grown {e : TypeId} (he : e ≠ 3) {w0 w w' : World} {B B' : Nat} {v u : Value} {l : List HAt} {L : List Int} (h : SubB e w0 B w v l) (k : OwnInts B' w u L) (hg : w.grownBy w' u.ownBlock) : SubB e w0 B w' v l := by
  obtain ⟨vs, h1, h2, h3⟩ := h
  exact ⟨vs, h1, h2.kept hg (rows_apart h2 k he), h3⟩
theorem SubB.cell {e : TypeId} {w0 w : World} {B : Nat} {v : Value} {l : List HAt} (h : SubB e w0 B w v l) {b j : Nat} (hb : b < B) (x : Value) : SubB e w0 B (w.setCell ⟨b, j, none⟩ x) v l := by
  obtain ⟨vs, h1, h2, h3⟩ := h
  exact ⟨vs, h1, ownsRow_setCell_below h2 hb _, h3⟩
theorem subB_nil (e : TypeId) (w0 : World) (B : Nat) (w : World) : SubB e w0 B w (.slice none 0 0) [] := ⟨[], rfl, World.ownsRow_nil w B e 2, fun i hi => by cases hi⟩
theorem SubB.slice {e : TypeId} {w0 w : World} {B : Nat} {v : Value} {l : List HAt} (h : SubB e w0 B w v l) : ∃ a n k, v = .slice a n k := by
  obtain ⟨vs, h1, h2, h3⟩ := h
  exact row_slice h2
theorem SubB.snoc {e : TypeId} {w0 w' : World} {B : Nat} {v' u : Value} {l : List HAt} {vs : List Value} {r : Int} {A : List Int} (h1 : vs.length = l.length) (h3 : ∀ i, i < l.length → Ints w0 (vs.getD i (.bool false)) (aA l i)) (hu : Ints w0 u A)
    (h : w'.ownsRow B e 2 v' (l.length + 1) (atC l vs ++ [.int .i64 r, u])) : SubB e w0 B w' v' (l ++ [(r, A)]) := by
  refine ⟨vs ++ [u], by simp [h1], ?_, fun i hi => ?_⟩
  · rw [atC_snoc h1]; simpa using h
  · rw [List.length_append] at hi
    by_cases e2 : i < l.length
    · have := h3 i e2
      rwa [show (vs ++ [u]).getD i (.bool false) = vs.getD i (.bool false) by simp [List.getD_eq_getElem?_getD, List.getElem?_append_left (show i < vs.length by omega)], show aA (l ++ [(r, A)]) i = aA l i by simp [aA, List.getD_eq_getElem?_getD, List.getElem?_append_left e2]]
    · have : i = l.length := by simp at hi; omega
      subst this
      rwa [show (vs ++ [u]).getD l.length (.bool false) = u by simp [List.getD_eq_getElem?_getD, ← h1], show aA (l ++ [(r, A)]) l.length = A by simp [aA, List.getD_eq_getElem?_getD]]
/-- the atoms of the literals without Not -/
def needL (r : RRule) : List RAt := (r.2.filter fun b => !b.1).map (·.2)
def needK (r : RRule) (k : Nat) : List RAt := ((r.2.take k).filter fun b => !b.1).map (·.2)
theorem needK_len (r : RRule) (k : Nat) : (needK r k).length ≤ k := by
  unfold needK
  rw [List.length_map]
  exact Nat.le_trans (List.length_filter_le _ _) (by rw [List.length_take]; omega)
theorem needK_all (r : RRule) : needK r r.2.length = needL r := by unfold needK needL; rw [List.take_length]
theorem needK_not {r : RRule} {k : Nat} (hk : k < r.2.length) (h : (lL r.2 k).1 = true) : needK r (k + 1) = needK r k := by
  unfold needK
  rw [List.take_succ_eq_append_getElem hk, List.filter_append, ← lL_get hk]
  simp [h]
theorem needK_yes {r : RRule} {k : Nat} (hk : k < r.2.length) (h : (lL r.2 k).1 = false) : needK r (k + 1) = needK r k ++ [(lL r.2 k).2] := by
  unfold needK
  rw [List.take_succ_eq_append_getElem hk, List.filter_append, ← lL_get hk]
  simp [h]
set_option maxRecDepth 100000 in
set_option maxHeartbeats 4000000 in
theorem needs_any0 (r : RRule) (hr3 : r.2.length ≤ 3) (u v : Value) (w0 w : World) (hW : Below w0.heap.size w0 w) (hu : Ints w0 u r.1.2) (hv : Lits w0 v r.2) :
    Calls Try.prog 120 #[.agg #[.int .i64 r.1.1, u, v]] w fun e w' => ∃ a n c, e = .returned (.slice a n c) ∧ SubB 94 w0 w.heap.size w' (.slice a n c) (needL r) ∧ Below w.heap.size w w' := by
  have HW := Lib.hid hW
  clear hW
  obtain ⟨a, b, off, cap, rfl, hle, hia, _, hcs⟩ := Lits.get hv
  obtain ⟨ua, uc, rfl⟩ := ints_slice hu
  obtain ⟨n, hn⟩ : ∃ x, x = r.2.length := ⟨_, rfl⟩
  obtain ⟨un, hun⟩ : ∃ x, x = r.1.2.length := ⟨_, rfl⟩
  have Hn := Lib.hid hn
  rw [← hn] at hle hia hcs hr3 ⊢
  rw [← hun] at hu ⊢
  have Hix := Lib.hid (run_ix (P := Try.prog) (t := 96) (a := a) (len := n) (cap := cap) (b := b) (off := off) (s := 3) Try.underlying96 (by intro w; kernel_rfl) hia)
  have Hc := Lib.hid hcs
  obtain ⟨w1, hw1⟩ : ∃ x, x = w.alloc (.cells #[.int .i64 r.1.1, .slice ua un uc, .slice a n cap] 98) := ⟨_, rfl⟩
  have hb1 : Below w.heap.size w w1 := by rw [hw1]; exact below_alloc _ _
  obtain ⟨bx, hbx⟩ : ∃ x, x = w.heap.size := ⟨_, rfl⟩
  have HG := Lib.hid (show w1.heap[bx]? = some (.cells #[.int .i64 r.1.1, .slice ua un uc, .slice a n cap] 98 (0, 0)) from by rw [hw1, hbx]; exact heap_alloc_new _ _)
  have Hb1 := Lib.hid hb1
  have Hw1 := Lib.hid hw1
  have Hbx := Lib.hid hbx
  have g2 := aCell HG.out 2 rfl
  clear hv hu hia hcs hn hun hw1 hb1 hbx
  go_enter Try.func120, Try.ntmps120
  go_upto_region 1 with fail
  rw [← Hw1.out, ← Hbx.out]
  clear Hw1
  go_wp2_with fail
  clear g2
  go_loopw [3, 9] (fun vo vi wr => ∃ (k : Nat) (oa : Option Addr) (on ok : Nat), vo = .slice oa on ok ∧ vi = .int .i64 k ∧ k ≤ n ∧ Below w.heap.size w wr ∧ SubB 94 w0 w.heap.size wr (.slice oa on ok) (needK r k)) (fun _ vi _ => n - (intOf vi).toNat)
  case atStart => exact ⟨0, none, 0, 0, rfl, rfl, Nat.zero_le _, Hb1.out, subB_nil _ _ _ _⟩
  case round =>
    generalize wr = wx at *
    obtain ⟨k, oa, on, ok, rfl, rfl, hk, hb, ho⟩ := hrel
    have Hb := Lib.hid hb
    have HO := Lib.hid ho
    clear hb ho
    by_cases hlt : k < n
    · obtain ⟨xa, xc, hc0, hc1, hc2, hxi⟩ := Hc.out k hlt
      have hc0 := Below.keep Hb.out (Below.keep HW.out hc0)
      have hc1 := Below.keep Hb.out (Below.keep HW.out hc1)
      have hc2 := Below.keep Hb.out (Below.keep HW.out hc2)
      have Hxi := Lib.hid hxi
      have hixk := Hix.out k
      have hlt2 : k < r.2.length := by rw [← Hn.out]; exact hlt
      have HN := Lib.hid (fun h => needK_not (r := r) hlt2 h)
      have HY := Lib.hid (fun h => needK_yes (r := r) hlt2 h)
      have hln := needK_len r k
      obtain ⟨⟨N, s, X⟩, hx⟩ : ∃ x, x = lL r.2 k := ⟨_, rfl⟩
      rw [← hx] at hc0 hc1 hc2 Hxi HN HY
      simp only at hc0 hc1 hc2 Hxi HN HY
      obtain ⟨xn, hxn⟩ : ∃ x, x = X.length := ⟨_, rfl⟩
      rw [← hxn] at hc2 Hxi
      obtain ⟨w3, hw3⟩ : ∃ x, x = wx.alloc (.cells #[.bool N, .int .i64 s, .slice xa xn xc] 100) := ⟨_, rfl⟩
      have hb3 : Below wx.heap.size wx w3 := by rw [hw3]; exact below_alloc _ _
      obtain ⟨bl, hbl⟩ : ∃ x, x = wx.heap.size := ⟨_, rfl⟩
      have HL := Lib.hid (show w3.heap[bl]? = some (.cells #[.bool N, .int .i64 s, .slice xa xn xc] 100 (0, 0)) from by rw [hw3, hbl]; exact heap_alloc_new _ _)
      have Hb3 := Lib.hid (Below.tr Hb.out hb3)
      have HO3 := Lib.hid (HO.out.keep hb3)
      have Hw3 := Lib.hid hw3
      have Hbl := Lib.hid hbl
      clear hx hxn hxi hw3 hb3 hbl HO Hb hlt2
      go_upto_region 5 with fail
      rw [← Hw3.out, ← Hbl.out]
      clear Hw3 Hbl hc0 hc1 hc2 hixk
      have g0 := aCell HL.out 0 rfl
      have g1 := aCell HL.out 1 rfl
      have g2 := aCell HL.out 2 rfl
      cases N
      · obtain ⟨w7, hw7⟩ : ∃ x, x = w3.alloc (.cells #[.int .i64 s, .slice xa xn xc] 94) := ⟨_, rfl⟩
        have hb : Below w3.heap.size w3 w7 := by rw [hw7]; exact below_alloc _ _
        obtain ⟨bk, hbk⟩ : ∃ x, x = w3.heap.size := ⟨_, rfl⟩
        have HK := Lib.hid (show w7.heap[bk]? = some (.cells #[.int .i64 s, .slice xa xn xc] 94 (0, 0)) from by rw [hw7, hbk]; exact heap_alloc_new _ _)
        obtain ⟨us, s1, s2, s3⟩ := HO3.out.keep hb
        have Hs1 := Lib.hid s1
        have Hs3 := Lib.hid s3
        have HOw := Lib.hid s2
        have Hb7 := Lib.hid (Below.tr Hb3.out hb)
        have Hw7 := Lib.hid hw7
        have Hbk := Lib.hid hbk
        have hl2 : (needK r k).length + 1 ≤ 100000000000 := by omega
        clear hw7 hb hbk s1 s2 s3 hln
        go_wp2_with (first | (at_builtin; rw [← Hw7.out, ← Hbk.out]; refine append_own rfl (.tmp 16) (.tmp 19) 197 rfl elemAtoms rfl HOw.out (m := 1) [.int .i64 s, .slice xa xn xc] rfl rfl (fun k y hk => aCell HK.out k (by simpa using hk)) (by intro u hu; simp at hu; rcases hu with rfl | rfl <;> rfl) hl2 Hb7.out.size ?_; intro v9 w9 h91 h92 h93))
        have HO9 := Lib.hid (show SubB 94 w0 w.heap.size w9 v9 (needK r (k + 1)) from by
          rw [HY.out rfl]
          exact SubB.snoc Hs1.out Hs3.out Hxi.out h91)
        have Hb9 := Lib.hid (Hb7.out.trans h92)
        obtain ⟨pa, pn, pk, rfl⟩ := HO9.out.slice
        clear h91 h92 h93 g0 g1 g2 hl2
        go_wp2_with fail
        go_roundw
        case rel => exact ⟨k + 1, pa, pn, pk, rfl, by go_num, by omega, Hb9.out, HO9.out⟩
        case measure => simp [intOf]; omega
      · have HO9 := Lib.hid (show SubB 94 w0 w.heap.size w3 (.slice oa on ok) (needK r (k + 1)) from by rw [HN.out rfl]; exact HO3.out)
        go_wp2_with fail
        go_roundw
        case rel => exact ⟨k + 1, oa, on, ok, rfl, by go_num, by omega, Hb3.out, HO9.out⟩
        case measure => simp [intOf]; omega
    · obtain rfl : k = n := by omega
      have HO9 := Lib.hid (show SubB 94 w0 w.heap.size wx (.slice oa on ok) (needL r) from by rw [← needK_all, ← Hn.out]; exact HO.out)
      go_wp2_with fail
      go_ret
      exact ⟨oa, on, ok, rfl, HO9.out, Hb.out⟩
theorem needs_any (r : RRule) (hr3 : r.2.length ≤ 3) (u v : Value) (w : World) (hu : Ints w u r.1.2) (hv : Lits w v r.2) :
    Calls Try.prog 120 #[.agg #[.int .i64 r.1.1, u, v]] w fun e w' => ∃ a n c, e = .returned (.slice a n c) ∧ SubB 94 w w.heap.size w' (.slice a n c) (needL r) ∧ Below w.heap.size w w' := needs_any0 r hr3 u v w w (Below.refl _ _) hu hv
#print axioms needs_any
end Go.Proofs.Ythndplkjhbmfmaa

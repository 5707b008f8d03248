/- Contract of the laws' Of. -/
import Derived.Test.YthndplkjhbmfmaaRoa
namespace Go.Proofs.Ythndplkjhbmfmaa
open Go.RowKit
def OwnS (e : TypeId) (B : Nat) (w : World) (v : Value) {α : Type} (R : α → List Value → Prop) (l : List α) : Prop := ∃ cs : List (List Value), cs.length = l.length ∧ (∀ i (h : i < l.length) (h' : i < cs.length), R l[i] cs[i] ∧ cs[i].length = 3) ∧ w.ownsRow B e 3 v l.length cs.flatten
theorem ownS_nil (e : TypeId) (B : Nat) (w : World) {α : Type} (R : α → List Value → Prop) : OwnS e B w (.slice none 0 0) R [] := ⟨[], rfl, fun i h => (by cases h), World.ownsRow_nil _ _ _ _⟩
theorem ownS_snoc {e : TypeId} {B : Nat} {w' : World} {v' : Value} {α : Type} {R : α → List Value → Prop} {l : List α} {cs : List (List Value)} {a : α} {c : List Value} (h1 : cs.length = l.length) (h2 : ∀ i (h : i < l.length) (h' : i < cs.length), R l[i] cs[i] ∧ cs[i].length = 3) (ha : R a c) (hc : c.length = 3) (h : w'.ownsRow B e 3 v' (l.length + 1) (cs.flatten ++ c)) : OwnS e B w' v' R (l ++ [a]) := by
  refine ⟨cs ++ [c], by simp [h1], fun i hi hi' => ?_, by simpa using h⟩
  by_cases e2 : i < l.length
  · rw [List.getElem_append_left e2, List.getElem_append_left (by omega)]
    exact h2 i e2 (by omega)
  · have e3 : i = l.length := by rw [List.length_append] at hi; simp at hi; omega
    subst e3
    rw [List.getElem_append_right (Nat.le_refl _), List.getElem_append_right (by omega)]
    simp [ha, hc, h1]
/-- literals of the call's own -/
def LtO (B : Nat) (w : World) (b : RLit) (c : List Value) : Prop := ∃ u, c = [.bool b.1, .int .i64 b.2.1, u] ∧ OwnInts B w u b.2.2
def OLit (B : Nat) (w : World) (v : Value) (l : List RLit) : Prop := OwnS 100 B w v (LtO B w) l
theorem OLit.keep {B : Nat} {w w' : World} {v : Value} {l : List RLit} (h : OLit B w v l) (hb : Below w.heap.size w w') : OLit B w' v l := by
  obtain ⟨cs, h1, h2, h3⟩ := h
  exact ⟨cs, h1, fun i a b => ⟨by obtain ⟨⟨u, e, k⟩, _⟩ := h2 i a b; exact ⟨u, e, k.keep hb⟩, (h2 i a b).2⟩, owns_keep h3 hb⟩
theorem OLit.mono {B B' : Nat} {w : World} {v : Value} {l : List RLit} (h : OLit B w v l) (hb : B' ≤ B) : OLit B' w v l := by
  obtain ⟨cs, h1, h2, h3⟩ := h
  exact ⟨cs, h1, fun i a b => ⟨by obtain ⟨⟨u, e, k⟩, _⟩ := h2 i a b; exact ⟨u, e, k.base hb⟩, (h2 i a b).2⟩, owns_mono h3 hb⟩
theorem OLit.lits {B : Nat} {w : World} {v : Value} {l : List RLit} (h : OLit B w v l) : Lits w v l := by
  obtain ⟨cs, h1, h2, h3⟩ := h
  exact ⟨cs, h1, fun i a b => ⟨by obtain ⟨⟨u, e, k⟩, _⟩ := h2 i a b; exact ⟨u, e, k.ints⟩, (h2 i a b).2⟩, owns_rd h3⟩
/-- where another row grows, or a cell of a block of another type is set -/
theorem OLit.apart {B : Nat} {w w' : World} {v : Value} {l : List RLit} (h : OLit B w v l) {g : Option Nat} (hg : w.grownBy w' g) (hv : v.ownBlock = none ∨ v.ownBlock ≠ g) (hi : ∀ b n u (A : List Int), w.ownsRow b 3 1 u n (A.map (Value.int .i64)) → u.ownBlock = none ∨ u.ownBlock ≠ g) : OLit B w' v l := by
  obtain ⟨cs, h1, h2, h3⟩ := h
  exact ⟨cs, h1, fun i a b => ⟨by obtain ⟨⟨u, e, k⟩, _⟩ := h2 i a b; exact ⟨u, e, World.ownsRow.kept k hg (hi _ _ _ _ k)⟩, (h2 i a b).2⟩, h3.kept hg hv⟩
/-- rules of the call's own -/
def RuO (B : Nat) (w : World) (r : RRule) (c : List Value) : Prop := ∃ u v, c = [.int .i64 r.1.1, u, v] ∧ OwnInts B w u r.1.2 ∧ OLit B w v r.2
def ORul (B : Nat) (w : World) (v : Value) (l : List RRule) : Prop := OwnS 98 B w v (RuO B w) l
theorem ORul.keep {B : Nat} {w w' : World} {v : Value} {l : List RRule} (h : ORul B w v l) (hb : Below w.heap.size w w') : ORul B w' v l := by
  obtain ⟨cs, h1, h2, h3⟩ := h
  exact ⟨cs, h1, fun i a b => ⟨by obtain ⟨⟨u, v, e, k, k2⟩, _⟩ := h2 i a b; exact ⟨u, v, e, k.keep hb, k2.keep hb⟩, (h2 i a b).2⟩, owns_keep h3 hb⟩
theorem ORul.rules {B : Nat} {w : World} {v : Value} {l : List RRule} (h : ORul B w v l) : Rules w v l := by
  obtain ⟨cs, h1, h2, h3⟩ := h
  exact ⟨cs, h1, fun i a b => ⟨by obtain ⟨⟨u, v, e, k, k2⟩, _⟩ := h2 i a b; exact ⟨u, v, e, k.ints, k2.lits⟩, (h2 i a b).2⟩, owns_rd h3⟩
theorem int_apart {w : World} {e : TypeId} (he : e ≠ 3) {g : Nat} {cs : Array Value} (hg : w.heap[g]? = some (.cells cs e (0, 0))) (b n : Nat) (u : Value) (xs : List Value) (h : w.ownsRow b 3 1 u n xs) : u.ownBlock = none ∨ u.ownBlock ≠ some g := by
  rcases h.2 with ⟨rfl, _⟩ | ⟨g', cap, cur, rfl, _, hh, _⟩
  · exact .inl rfl
  · refine .inr fun q => he ?_
    have q : g' = g := Option.some.inj q
    subst q
    rw [hg] at hh
    injection hh with hh
    injection hh
theorem lit_apart {w : World} {e : TypeId} (he : e ≠ 100) {g : Nat} {cs : Array Value} (hg : w.heap[g]? = some (.cells cs e (0, 0))) {B : Nat} {v : Value} {l : List RLit} (h : OLit B w v l) : v.ownBlock = none ∨ v.ownBlock ≠ some g := by
  obtain ⟨_, _, _, h3⟩ := h
  rcases h3.2 with ⟨rfl, _⟩ | ⟨g', cap, cur, rfl, _, hh, _⟩
  · exact .inl rfl
  · refine .inr fun q => he ?_
    have q : g' = g := Option.some.inj q
    subst q
    rw [hg] at hh
    injection hh with hh
    injection hh
theorem infoLit : (Try.prog.info? 100).map (fun i => (i.zero, i.size, i.bytes)) = some (some (.agg #[.bool false, .int .i64 0, .slice none 0 0]), 3, 40) := by kernel_rfl
theorem elemLits : Elem Try.prog 96 100 3 40 := elem_of Try.underlying96 infoLit rfl (by omega) (by omega)
theorem infoRule : (Try.prog.info? 98).map (fun i => (i.zero, i.size, i.bytes)) = some (some (.agg #[.int .i64 0, .slice none 0 0, .slice none 0 0]), 3, 56) := by kernel_rfl
theorem elemRules : Elem Try.prog 27 98 3 56 := elem_of Try.underlying27 infoRule rfl (by omega) (by omega)
/-- what Of makes of rules -/
def ofLt (b : RLit) : RLit := (b.1, ofAt b.2)
def ofRu (r : RRule) : RRule := (ofAt r.1, (r.2.take 5).map ofLt)
def ofRl (l : List RRule) : List RRule := (l.take 12).map ofRu
set_option maxRecDepth 100000 in
set_option maxHeartbeats 16000000 in
theorem OfL_any (l : List RRule) (v : Value) (w : World) (hv : Rules w v l) :
    Calls Try.prog 19 #[v] w fun e w' => ∃ a n c, e = .returned (.slice a n c) ∧ ORul w.heap.size w' (.slice a n c) (ofRl l) ∧ Below w.heap.size w w' := by
  obtain ⟨a, b, off, cap, rfl, hle, hia, _, hcs⟩ := Rules.get hv
  obtain ⟨n, hn⟩ : ∃ x, x = l.length := ⟨_, rfl⟩
  have Hn := Lib.hid hn
  rw [← hn] at hle hia hcs ⊢
  have Hix := Lib.hid (run_ix (P := Try.prog) (t := 22) (a := a) (len := n) (cap := cap) (b := b) (off := off) (s := 3) Try.underlying22 (by intro w; kernel_rfl) hia)
  have Hc := Lib.hid hcs
  clear hv hia hcs hn
  go_enter Try.func19, Try.ntmps19
  go_wp2_with fail
  go_loopw [3, 11] (fun vo vi wr => ∃ (k : Nat) (oa : Option Addr) (on oc : Nat), vo = .slice oa on oc ∧ vi = .int .i64 k ∧ k ≤ n ∧ k ≤ 12 ∧ Below w.heap.size w wr ∧ ORul w.heap.size wr (.slice oa on oc) ((l.take k).map ofRu)) (fun _ vi _ => n - (intOf vi).toNat)
  case atStart => exact ⟨0, none, 0, 0, rfl, rfl, Nat.zero_le _, by omega, Below.refl _ _, ownS_nil _ _ _ _⟩
  case round =>
    generalize wr = wx at *
    obtain ⟨k, oa, on, oc, rfl, rfl, hk, hk12, hb, ho⟩ := hrel
    have Hb := Lib.hid hb
    have HO := Lib.hid ho
    clear hb ho
    by_cases hlt : k < n
    · obtain ⟨ua, uc, va, vc, hc0, hc1, hc2, hui, hvi⟩ := Hc.out k hlt
      have hc0 := Below.keep Hb.out hc0
      have hc1 := Below.keep Hb.out hc1
      have hc2 := Below.keep Hb.out hc2
      have hixk := Hix.out k
      have hlt2 : k < l.length := by rw [← Hn.out]; exact hlt
      have HTk := Lib.hid (show (l.take (k + 1)).map ofRu = (l.take k).map ofRu ++ [ofRu (rR l k)] from by rw [List.take_succ_eq_append_getElem hlt2, List.map_append, rR_get hlt2]; rfl)
      obtain ⟨⟨⟨hr, A⟩, bd⟩, hrr⟩ : ∃ x, x = rR l k := ⟨_, rfl⟩
      rw [← hrr] at hc0 hc1 hc2 hui hvi HTk
      simp only at hc0 hc1 hc2 hui hvi
      obtain ⟨un, hun⟩ : ∃ x, x = A.length := ⟨_, rfl⟩
      obtain ⟨bn, hbn⟩ : ∃ x, x = bd.length := ⟨_, rfl⟩
      have Hbn := Lib.hid hbn
      rw [← hun] at hc1 hui
      rw [← hbn] at hc2 hvi
      obtain ⟨w3, hw3⟩ : ∃ x, x = wx.alloc (.cells #[.int .i64 hr, .slice ua un uc, .slice va bn vc] 86) := ⟨_, rfl⟩
      have hb3 : Below wx.heap.size wx w3 := by rw [hw3]; exact below_alloc _ _
      obtain ⟨b5, hb5⟩ : ∃ x, x = wx.heap.size := ⟨_, rfl⟩
      have HX := Lib.hid (show w3.heap[b5]? = some (.cells #[.int .i64 hr, .slice ua un uc, .slice va bn vc] 86 (0, 0)) from by rw [hw3, hb5]; exact heap_alloc_new _ _)
      have Hui := Lib.hid (hui.keep Hb.out)
      have Hvi := Lib.hid (hvi.keep Hb.out)
      have HO3 := Lib.hid (HO.out.keep hb3)
      have HB3 := Lib.hid hb3
      have Hb3 := Lib.hid (Below.tr Hb.out hb3)
      have Hw3 := Lib.hid hw3
      have Hb5 := Lib.hid hb5
      clear hrr hun hbn hui hvi hw3 hb3 hb5 hlt2
      go_upto_region 5 with fail
      rw [← Hw3.out, ← Hb5.out]
      clear Hw3 hc0 hc1 hc2 hixk
      by_cases h12 : k < 12
      · have hk11 : ¬ (11 : Int) < (k : Int) := by omega
        have g0 := aCell HX.out 0 rfl
        have g1 := aCell HX.out 1 rfl
        have g2 := aCell HX.out 2 rfl
        have HC := Lib.hid (atomL_any hr A (.slice ua un uc) w3 (Hui.out.keep HB3.out))
        go_wp2_with fail
        refine HC.out.mono ?_
        clear HC
        rintro e w4 ⟨ha, hn2, hc4, rfl, hhi, hb4⟩
        obtain ⟨w5, hw5⟩ : ∃ x, x = w4.alloc (.cells #[.int .i64 hr, .slice ha hn2 hc4, .slice none 0 0] 98) := ⟨_, rfl⟩
        have hb5 : Below w4.heap.size w4 w5 := by rw [hw5]; exact below_alloc _ _
        obtain ⟨bx, hbx⟩ : ∃ x, x = w4.heap.size := ⟨_, rfl⟩
        have HXb := Lib.hid (show w5.heap[bx]? = some (.cells #[.int .i64 hr, .slice ha hn2 hc4, .slice none 0 0] 98 (0, 0)) from by rw [hw5, hbx]; exact heap_alloc_new _ _)
        have Hbxg := Lib.hid (show w3.heap.size ≤ bx from by rw [hbx]; exact hb4.size)
        have HH5 := Lib.hid (hhi.keep hb5)
        have HB5 := Lib.hid (Below.tr hb4 hb5)
        have HXk := Lib.hid (blk_keep2 (blk_keep2 HX.out hb4) hb5)
        have Hw5 := Lib.hid hw5
        have Hbx := Lib.hid hbx
        clear hhi hb4 hw5 hb5 hbx g0 g1 g2 HX
        have g2 := aCell HXk.out 2 rfl
        go_upto_region 7 with fail
        rw [← Hw5.out, ← Hbx.out]
        clear Hw5
        obtain ⟨a6, b6, off6, cap6, he6, hvl, hia6, _, hcs6⟩ := Lits.get Hvi.out
        rw [← Hbn.out] at he6 hvl hia6 hcs6
        injection he6 with e1 e2 e3
        subst e1 e3
        have Hix6 := Lib.hid (run_ix (P := Try.prog) (t := 84) (a := va) (len := bn) (cap := vc) (b := b6) (off := off6) (s := 3) Try.underlying84 (by intro w; kernel_rfl) hia6)
        have Hc6 := Lib.hid hcs6
        clear hia6 hcs6 e2
        go_wp2_with fail
        clear g2
        go_loopw [25] (fun vi wr => ∃ (j : Nat) (pa : Option Addr) (pn pc : Nat), vi = .int .i64 j ∧ j ≤ bn ∧ wr.heap[bx]? = some (.cells #[.int .i64 hr, .slice ha hn2 hc4, .slice pa pn pc] 98 (0, 0)) ∧ OwnInts w3.heap.size wr (.slice ha hn2 hc4) (A.take 5) ∧ OLit w3.heap.size wr (.slice pa pn pc) (((bd.take j).take 5).map ofLt) ∧ Below w3.heap.size w3 wr) (fun vi _ => bn - (intOf vi).toNat)
        case atStart => exact ⟨0, none, 0, 0, rfl, Nat.zero_le _, HXb.out, HH5.out, ownS_nil _ _ _ _, HB5.out⟩
        case round =>
          clear HXb HH5 HB5 HXk
          generalize wr = wy at *
          obtain ⟨j, pa, pn, pc, rfl, hj, hx, hh, hl, hb⟩ := hrel
          have HX := Lib.hid hx
          have HH := Lib.hid hh
          have HL := Lib.hid hl
          have HB := Lib.hid hb
          clear hx hh hl hb
          by_cases hjl : j < bn
          · obtain ⟨xa, xc, hd0, hd1, hd2, hxi⟩ := Hc6.out j hjl
            have hbw : Below wx.heap.size wx wy := Below.tr HB3.out HB.out
            have hd0 := Below.keep hbw hd0
            have hd1 := Below.keep hbw hd1
            have hd2 := Below.keep hbw hd2
            have hixj := Hix6.out j
            have hj2 : j < bd.length := by rw [← Hbn.out]; exact hjl
            have HT5 := Lib.hid (fun (h5 : j < 5) => show ((bd.take (j + 1)).take 5).map ofLt = ((bd.take j).take 5).map ofLt ++ [ofLt (lL bd j)] from by
              rw [List.take_of_length_le (show (bd.take (j + 1)).length ≤ 5 by rw [List.length_take]; omega), List.take_of_length_le (show (bd.take j).length ≤ 5 by rw [List.length_take]; omega), List.take_succ_eq_append_getElem hj2, List.map_append, lL_get hj2]; rfl)
            have HT9 := Lib.hid (fun (h5 : ¬ j < 5) => show ((bd.take (j + 1)).take 5).map ofLt = ((bd.take j).take 5).map ofLt from by
              rw [List.take_take, List.take_take, show min 5 (j + 1) = 5 by omega, show min 5 j = 5 by omega])
            obtain ⟨⟨N, s, X⟩, hx⟩ : ∃ x, x = lL bd j := ⟨_, rfl⟩
            rw [← hx] at hd0 hd1 hd2 hxi HT5
            simp only at hd0 hd1 hd2 hxi
            obtain ⟨xn, hxn⟩ : ∃ x, x = X.length := ⟨_, rfl⟩
            rw [← hxn] at hd2 hxi
            obtain ⟨w7, hw7⟩ : ∃ x, x = wy.alloc (.cells #[.bool N, .int .i64 s, .slice xa xn xc] 88) := ⟨_, rfl⟩
            have hb7 : Below wy.heap.size wy w7 := by rw [hw7]; exact below_alloc _ _
            obtain ⟨b8, hb8⟩ : ∃ x, x = wy.heap.size := ⟨_, rfl⟩
            have H8 := Lib.hid (show w7.heap[b8]? = some (.cells #[.bool N, .int .i64 s, .slice xa xn xc] 88 (0, 0)) from by rw [hw7, hb8]; exact heap_alloc_new _ _)
            have HX7 := Lib.hid (blk_keep2 HX.out hb7)
            have HH7 := Lib.hid (HH.out.keep hb7)
            have HL7 := Lib.hid (HL.out.keep hb7)
            have HB7 := Lib.hid (Below.tr HB.out hb7)
            have Hxi := Lib.hid ((hxi.keep hbw).keep hb7)
            have Hn8 := Lib.hid (show bx ≠ b8 from by have := (Array.getElem?_eq_some_iff.1 HX.out).1; omega)
            have Hw7 := Lib.hid hw7
            have Hb8 := Lib.hid hb8
            clear hx hxn hxi hw7 hb7 hb8 hbw hj2
            go_upto_region 10 with fail
            rw [← Hw7.out, ← Hb8.out]
            clear Hw7 hd0 hd1 hd2 hixj
            by_cases h5 : j < 5
            · have hj5 : (j : Int) < 5 := by omega
              go_upto_region 11 with fail
              have HB0 := Lib.hid (show Below w3.heap.size w3 w7.drew from HB7.out.drew)
              have HX0 := Lib.hid (show w7.drew.heap[bx]? = some (.cells #[.int .i64 hr, .slice ha hn2 hc4, .slice pa pn pc] 98 (0, 0)) from HX7.out)
              have HS0 := Lib.hid (show w7.drew.heap[b8]? = some (.cells #[.bool N, .int .i64 s, .slice xa xn xc] 88 (0, 0)) from H8.out)
              have HH0 := Lib.hid (show OwnInts w3.heap.size w7.drew (.slice ha hn2 hc4) (A.take 5) from HH7.out)
              have HL0 := Lib.hid (show OLit w3.heap.size w7.drew (.slice pa pn pc) (((bd.take j).take 5).map ofLt) from HL7.out)
              have HI0 := Lib.hid (show Ints w7.drew (.slice xa xn xc) X from Hxi.out)
              refine wp_region_held (S := fun w' => w'.heap[b8]? = some (.cells #[.bool N, .int .i64 s, .slice xa xn xc] 88 (0, 0))) wideK ?_
              change wpAnyH _ _ _ _ _ _ _ _ (World.drew _)
              generalize w7.drew = wd0 at *
              refine wpAnyH_take (i := 0) (v := ?_) rfl (by kernel_rfl) (by kernel_rfl) (by kernel_rfl) (fun _ _ _ h => h) (Or.inl ⟨by rfl, ?_⟩) HS0.out ?_
              rotate_left
              focus (intro w hS; clear hS; first | (go_simp; done) | (go_simp; with_reducible rfl))
              simp only [Act.put, List.getElem_toArray, List.getElem_cons_zero, List.setIfInBounds_toArray, List.set_cons_zero, List.set_cons_succ]
              refine wpAnyH_take (i := 2) (v := ?_) rfl (by kernel_rfl) (by kernel_rfl) (by kernel_rfl) (fun _ _ _ h => h) (Or.inl ⟨by rfl, ?_⟩) HS0.out ?_
              rotate_left
              focus (intro w hS; clear hS; first | (go_simp; done) | (go_simp; with_reducible rfl))
              simp only [Act.put, List.getElem_toArray, List.getElem_cons_zero, List.getElem_cons_succ, List.setIfInBounds_toArray, List.set_cons_zero, List.set_cons_succ]
              refine wpAnyH_take (i := 3) (v := ?_) rfl (by kernel_rfl) (by kernel_rfl) (by kernel_rfl) (fun _ _ _ h => h) (Or.inl ⟨by rfl, ?_⟩) HS0.out ?_
              rotate_left
              focus (intro w hS; have s0 := aCell hS 0 rfl; clear hS; first | (go_simp; done) | (go_simp; with_reducible rfl))
              simp only [Act.put, List.getElem_toArray, List.getElem_cons_zero, List.getElem_cons_succ, List.setIfInBounds_toArray, List.set_cons_zero, List.set_cons_succ]
              refine wpAnyH_take (i := 4) (v := ?_) rfl (by kernel_rfl) (by kernel_rfl) (by kernel_rfl) (fun _ _ _ h => h) (Or.inl ⟨by rfl, ?_⟩) HS0.out ?_
              rotate_left
              focus (intro w hS; clear hS; first | (go_simp; done) | (go_simp; with_reducible rfl))
              simp only [Act.put, List.getElem_toArray, List.getElem_cons_zero, List.getElem_cons_succ, List.setIfInBounds_toArray, List.set_cons_zero, List.set_cons_succ]
              refine wpAnyH_take (i := 5) (v := ?_) rfl (by kernel_rfl) (by kernel_rfl) (by kernel_rfl) (fun _ _ _ h => h) (Or.inl ⟨by rfl, ?_⟩) HS0.out ?_
              rotate_left
              focus (intro w hS; have s1 := aCell hS 1 rfl; have s2 := aCell hS 2 rfl; clear hS; first | (go_simp; done) | (go_simp; with_reducible rfl))
              simp only [Act.put, List.getElem_toArray, List.getElem_cons_zero, List.getElem_cons_succ, List.setIfInBounds_toArray, List.set_cons_zero, List.set_cons_succ]
              refine wpAnyH_ready (rs := [1, 6]) (by kernel_rfl) (by simp) ?_
              refine RdyH.cons rfl (fun K2 hK => ?_) ?_
              · have gx2 := aCell HX0.out 2 rfl
                go_simp
                refine hK _ _ HS0.out ?_
                clear hK K2 gx2
                refine wpAnyH_ready (rs := [6]) (by kernel_rfl) (by simp) ?_
                refine RdyH.cons rfl (fun K2 hK => ?_) RdyH.nil
                go_simp
                go_at_call 64
                refine (atomL_any s X (.slice xa xn xc) wd0 HI0.out).mono ?_
                rintro e wd1 ⟨y1, y2, y3, rfl, hy, hb⟩
                have HB1 := Lib.hid (Below.tr HB0.out hb)
                have HX1 := Lib.hid (blk_keep2 HX0.out hb)
                have HS1 := Lib.hid (blk_keep2 HS0.out hb)
                have HH1 := Lib.hid (HH0.out.keep hb)
                have HL1 := Lib.hid (HL0.out.keep hb)
                have HI1 := Lib.hid (HI0.out.keep hb)
                have HY := Lib.hid (hy.base HB0.out.size)
                clear hy hb
                go_simp
                refine hK _ _ HS1.out ?_
                clear hK K2
                refine wpAnyH_take (i := 7) (v := ?_) rfl (by kernel_rfl) (by kernel_rfl) (by kernel_rfl) (fun _ _ _ h => h) (Or.inl ⟨by rfl, ?_⟩) HS1.out ?_
                rotate_left
                focus (intro w hS; clear hS; first | (go_simp; done) | (go_simp; with_reducible rfl))
                simp only [Act.put, List.getElem_toArray, List.getElem_cons_zero, List.getElem_cons_succ, List.setIfInBounds_toArray, List.set_cons_zero, List.set_cons_succ]
                refine wpAnyH_ready (rs := [8]) (by kernel_rfl) (by simp) ?_
                refine RdyH.cons rfl (fun K2 hK => ?_) RdyH.nil
                obtain ⟨wd2, hwd⟩ : ∃ x, x = wd1.alloc (.cells #[.bool N, .int .i64 s, .slice y1 y2 y3] 100) := ⟨_, rfl⟩
                have hb : Below wd1.heap.size wd1 wd2 := by rw [hwd]; exact below_alloc _ _
                obtain ⟨bm, hbm⟩ : ∃ x, x = wd1.heap.size := ⟨_, rfl⟩
                have HK := Lib.hid (show wd2.heap[bm]? = some (.cells #[.bool N, .int .i64 s, .slice y1 y2 y3] 100 (0, 0)) from by rw [hwd, hbm]; exact heap_alloc_new _ _)
                have HB2 := Lib.hid (Below.tr HB1.out hb)
                have HX2 := Lib.hid (blk_keep2 HX1.out hb)
                have HS2 := Lib.hid (blk_keep2 HS1.out hb)
                have HH2 := Lib.hid (HH1.out.keep hb)
                have HL2 := Lib.hid (HL1.out.keep hb)
                have HI2 := Lib.hid (HI1.out.keep hb)
                have HY2 := Lib.hid (HY.out.keep hb)
                go_simp
                rw [← hwd, ← hbm]
                clear hwd hbm hb
                refine hK _ _ HS2.out ?_
                clear hK K2
                refine wpAnyH_ready (rs := [9]) (by kernel_rfl) (by simp) ?_
                refine RdyH.cons rfl (fun K2 hK => ?_) RdyH.nil
                obtain ⟨cs, s1, s2, s3⟩ := HL2.out
                have hl2 : (((bd.take j).take 5).map ofLt).length + 1 ≤ 100000000000 := by rw [List.length_map, List.length_take]; omega
                refine step_append_own_g rfl (.tmp 33) (.tmp 40) 96 rfl elemLits rfl s3 (m := 1) [.bool N, .int .i64 s, .slice y1 y2 y3] rfl rfl (fun k y hk => aCell HK.out k (by simpa using hk)) (by intro u hu; simp at hu; rcases hu with rfl | rfl | rfl <;> rfl) hl2 HB2.out.size ?_
                intro v9 wd3 h1 h2 h3
                have hapI : ∀ b n u (xs : List Value), wd2.ownsRow b 3 1 u n xs → u.ownBlock = none ∨ u.ownBlock ≠ (Value.slice pa pn pc).ownBlock := fun b n u xs h => rows_apart h s3 (by decide)
                have HL3 := Lib.hid (show OLit w3.heap.size wd3 v9 (((bd.take (j + 1)).take 5).map ofLt) from by
                  rw [HT5.out h5]
                  refine ownS_snoc s1 (fun i h h' => ⟨?_, (s2 i h h').2⟩) ?_ rfl h1
                  · obtain ⟨⟨u, e, k1⟩, _⟩ := s2 i h h'
                    exact ⟨u, e, World.ownsRow.kept k1 h3 (hapI _ _ _ _ k1)⟩
                  · exact ⟨_, rfl, World.ownsRow.kept HY2.out h3 (hapI _ _ _ _ HY2.out)⟩)
                have HH3 := Lib.hid (show OwnInts w3.heap.size wd3 (.slice ha hn2 hc4) (A.take 5) from World.ownsRow.kept HH2.out h3 (hapI _ _ _ _ HH2.out))
                have hbx' := block_grown s3 h3 HX2.out (by decide)
                have hb8' := block_grown s3 h3 HS2.out (by decide)
                have HX3 := Lib.hid hbx'
                have HS3 := Lib.hid hb8'
                have HB3 := Lib.hid (HB2.out.trans h2)
                obtain ⟨za, zn, zc, rfl⟩ := row_slice h1
                clear s1 s2 s3 h1 h2 h3 hapI hbx' hb8' hl2
                refine hK _ _ HS3.out ?_
                clear hK K2
                refine wpAnyH_take (i := 10) (v := ?_) rfl (by kernel_rfl) (by kernel_rfl) (by kernel_rfl) (fun _ _ _ h => h) (Or.inl ⟨by rfl, ?_⟩) HS3.out ?_
                rotate_left
                focus (intro w hS; clear hS; first | (go_simp; done) | (go_simp; with_reducible rfl))
                simp only [Act.put, List.getElem_toArray, List.getElem_cons_zero, List.getElem_cons_succ, List.setIfInBounds_toArray, List.set_cons_zero, List.set_cons_succ]
                refine wpAnyH_ready (rs := [11]) (by kernel_rfl) (by simp) ?_
                refine RdyH.cons rfl (fun K2 hK => ?_) RdyH.nil
                have x1 := aCell HX3.out 2 rfl
                have x2 := frozen_of_row wd3 bx 2 _ _ HX3.out
                have hb8' := (heap_setCell_other wd3 ⟨bx, 2, none⟩ b8 (.slice za zn zc) Hn8.out.symm).trans HS3.out
                have HS4 := Lib.hid hb8'
                have hgr := grown_setCell wd3 bx 2 (.slice za zn zc)
                have HX4 := Lib.hid (show (wd3.setCell ⟨bx, 2, none⟩ (.slice za zn zc)).heap[bx]? = some (.cells #[.int .i64 hr, .slice ha hn2 hc4, .slice za zn zc] 98 (0, 0)) from by rw [heap_setCell_same wd3 bx 2 _ _ (.slice za zn zc) HX3.out]; rfl)
                have HH4 := Lib.hid (show OwnInts w3.heap.size (wd3.setCell ⟨bx, 2, none⟩ (.slice za zn zc)) (.slice ha hn2 hc4) (A.take 5) from World.ownsRow.kept HH3.out hgr (int_apart (by decide) HX3.out _ _ _ _ HH3.out))
                have HL4 := Lib.hid (HL3.out.apart hgr (lit_apart (by decide) HX3.out HL3.out) fun b n u A h => int_apart (by decide) HX3.out _ _ _ _ h)
                have HB4 := Lib.hid (show Below w3.heap.size w3 (wd3.setCell ⟨bx, 2, none⟩ (.slice za zn zc)) from HB3.out.trans ⟨rfl, rfl, rfl, by simp, fun k hk => heap_setCell_other wd3 ⟨bx, 2, none⟩ k _ (by show k ≠ bx; have := Hbxg.out; omega)⟩)
                clear hgr
                go_simp
                refine hK _ _ hb8' ?_
                clear hK K2 x1 x2 hb8'
                generalize wd3.setCell ⟨bx, 2, none⟩ (.slice za zn zc) = wd4 at *
                refine wpAnyH_done (by kernel_rfl) ?_ _
                go_wp2_with fail
                go_roundw
                case rel => exact ⟨j + 1, za, zn, zc, by go_num, by omega, HX4.out, HH4.out, HL4.out, HB4.out⟩
                case measure => simp [intOf]; omega
              · refine RdyH.cons rfl (fun K2 hK => ?_) RdyH.nil
                go_simp
                go_at_call 64
                refine (atomL_any s X (.slice xa xn xc) wd0 HI0.out).mono ?_
                rintro e wd1 ⟨y1, y2, y3, rfl, hy, hb⟩
                have HB1 := Lib.hid (Below.tr HB0.out hb)
                have HX1 := Lib.hid (blk_keep2 HX0.out hb)
                have HS1 := Lib.hid (blk_keep2 HS0.out hb)
                have HH1 := Lib.hid (HH0.out.keep hb)
                have HL1 := Lib.hid (HL0.out.keep hb)
                have HI1 := Lib.hid (HI0.out.keep hb)
                have HY := Lib.hid (hy.base HB0.out.size)
                clear hy hb
                go_simp
                refine hK _ _ HS1.out ?_
                clear hK K2
                refine wpAnyH_take (i := 7) (v := ?_) rfl (by kernel_rfl) (by kernel_rfl) (by kernel_rfl) (fun _ _ _ h => h) (Or.inl ⟨by rfl, ?_⟩) HS1.out ?_
                rotate_left
                focus (intro w hS; clear hS; first | (go_simp; done) | (go_simp; with_reducible rfl))
                simp only [Act.put, List.getElem_toArray, List.getElem_cons_zero, List.getElem_cons_succ, List.setIfInBounds_toArray, List.set_cons_zero, List.set_cons_succ]
                refine wpAnyH_ready (rs := [1, 8]) (by kernel_rfl) (by simp) ?_
                refine RdyH.cons rfl (fun K2 hK => ?_) ?_
                · have gx2 := aCell HX1.out 2 rfl
                  go_simp
                  refine hK _ _ HS1.out ?_
                  clear hK K2 gx2
                  refine wpAnyH_ready (rs := [8]) (by kernel_rfl) (by simp) ?_
                  refine RdyH.cons rfl (fun K2 hK => ?_) RdyH.nil
                  obtain ⟨wd2, hwd⟩ : ∃ x, x = wd1.alloc (.cells #[.bool N, .int .i64 s, .slice y1 y2 y3] 100) := ⟨_, rfl⟩
                  have hb : Below wd1.heap.size wd1 wd2 := by rw [hwd]; exact below_alloc _ _
                  obtain ⟨bm, hbm⟩ : ∃ x, x = wd1.heap.size := ⟨_, rfl⟩
                  have HK := Lib.hid (show wd2.heap[bm]? = some (.cells #[.bool N, .int .i64 s, .slice y1 y2 y3] 100 (0, 0)) from by rw [hwd, hbm]; exact heap_alloc_new _ _)
                  have HB2 := Lib.hid (Below.tr HB1.out hb)
                  have HX2 := Lib.hid (blk_keep2 HX1.out hb)
                  have HS2 := Lib.hid (blk_keep2 HS1.out hb)
                  have HH2 := Lib.hid (HH1.out.keep hb)
                  have HL2 := Lib.hid (HL1.out.keep hb)
                  have HI2 := Lib.hid (HI1.out.keep hb)
                  have HY2 := Lib.hid (HY.out.keep hb)
                  go_simp
                  rw [← hwd, ← hbm]
                  clear hwd hbm hb
                  refine hK _ _ HS2.out ?_
                  clear hK K2
                  refine wpAnyH_ready (rs := [9]) (by kernel_rfl) (by simp) ?_
                  refine RdyH.cons rfl (fun K2 hK => ?_) RdyH.nil
                  obtain ⟨cs, s1, s2, s3⟩ := HL2.out
                  have hl2 : (((bd.take j).take 5).map ofLt).length + 1 ≤ 100000000000 := by rw [List.length_map, List.length_take]; omega
                  refine step_append_own_g rfl (.tmp 33) (.tmp 40) 96 rfl elemLits rfl s3 (m := 1) [.bool N, .int .i64 s, .slice y1 y2 y3] rfl rfl (fun k y hk => aCell HK.out k (by simpa using hk)) (by intro u hu; simp at hu; rcases hu with rfl | rfl | rfl <;> rfl) hl2 HB2.out.size ?_
                  intro v9 wd3 h1 h2 h3
                  have hapI : ∀ b n u (xs : List Value), wd2.ownsRow b 3 1 u n xs → u.ownBlock = none ∨ u.ownBlock ≠ (Value.slice pa pn pc).ownBlock := fun b n u xs h => rows_apart h s3 (by decide)
                  have HL3 := Lib.hid (show OLit w3.heap.size wd3 v9 (((bd.take (j + 1)).take 5).map ofLt) from by
                    rw [HT5.out h5]
                    refine ownS_snoc s1 (fun i h h' => ⟨?_, (s2 i h h').2⟩) ?_ rfl h1
                    · obtain ⟨⟨u, e, k1⟩, _⟩ := s2 i h h'
                      exact ⟨u, e, World.ownsRow.kept k1 h3 (hapI _ _ _ _ k1)⟩
                    · exact ⟨_, rfl, World.ownsRow.kept HY2.out h3 (hapI _ _ _ _ HY2.out)⟩)
                  have HH3 := Lib.hid (show OwnInts w3.heap.size wd3 (.slice ha hn2 hc4) (A.take 5) from World.ownsRow.kept HH2.out h3 (hapI _ _ _ _ HH2.out))
                  have hbx' := block_grown s3 h3 HX2.out (by decide)
                  have hb8' := block_grown s3 h3 HS2.out (by decide)
                  have HX3 := Lib.hid hbx'
                  have HS3 := Lib.hid hb8'
                  have HB3 := Lib.hid (HB2.out.trans h2)
                  obtain ⟨za, zn, zc, rfl⟩ := row_slice h1
                  clear s1 s2 s3 h1 h2 h3 hapI hbx' hb8' hl2
                  refine hK _ _ HS3.out ?_
                  clear hK K2
                  refine wpAnyH_take (i := 10) (v := ?_) rfl (by kernel_rfl) (by kernel_rfl) (by kernel_rfl) (fun _ _ _ h => h) (Or.inl ⟨by rfl, ?_⟩) HS3.out ?_
                  rotate_left
                  focus (intro w hS; clear hS; first | (go_simp; done) | (go_simp; with_reducible rfl))
                  simp only [Act.put, List.getElem_toArray, List.getElem_cons_zero, List.getElem_cons_succ, List.setIfInBounds_toArray, List.set_cons_zero, List.set_cons_succ]
                  refine wpAnyH_ready (rs := [11]) (by kernel_rfl) (by simp) ?_
                  refine RdyH.cons rfl (fun K2 hK => ?_) RdyH.nil
                  have x1 := aCell HX3.out 2 rfl
                  have x2 := frozen_of_row wd3 bx 2 _ _ HX3.out
                  have hb8' := (heap_setCell_other wd3 ⟨bx, 2, none⟩ b8 (.slice za zn zc) Hn8.out.symm).trans HS3.out
                  have HS4 := Lib.hid hb8'
                  have hgr := grown_setCell wd3 bx 2 (.slice za zn zc)
                  have HX4 := Lib.hid (show (wd3.setCell ⟨bx, 2, none⟩ (.slice za zn zc)).heap[bx]? = some (.cells #[.int .i64 hr, .slice ha hn2 hc4, .slice za zn zc] 98 (0, 0)) from by rw [heap_setCell_same wd3 bx 2 _ _ (.slice za zn zc) HX3.out]; rfl)
                  have HH4 := Lib.hid (show OwnInts w3.heap.size (wd3.setCell ⟨bx, 2, none⟩ (.slice za zn zc)) (.slice ha hn2 hc4) (A.take 5) from World.ownsRow.kept HH3.out hgr (int_apart (by decide) HX3.out _ _ _ _ HH3.out))
                  have HL4 := Lib.hid (HL3.out.apart hgr (lit_apart (by decide) HX3.out HL3.out) fun b n u A h => int_apart (by decide) HX3.out _ _ _ _ h)
                  have HB4 := Lib.hid (show Below w3.heap.size w3 (wd3.setCell ⟨bx, 2, none⟩ (.slice za zn zc)) from HB3.out.trans ⟨rfl, rfl, rfl, by simp, fun k hk => heap_setCell_other wd3 ⟨bx, 2, none⟩ k _ (by show k ≠ bx; have := Hbxg.out; omega)⟩)
                  clear hgr
                  go_simp
                  refine hK _ _ hb8' ?_
                  clear hK K2 x1 x2 hb8'
                  generalize wd3.setCell ⟨bx, 2, none⟩ (.slice za zn zc) = wd4 at *
                  refine wpAnyH_done (by kernel_rfl) ?_ _
                  go_wp2_with fail
                  go_roundw
                  case rel => exact ⟨j + 1, za, zn, zc, by go_num, by omega, HX4.out, HH4.out, HL4.out, HB4.out⟩
                  case measure => simp [intOf]; omega
                · refine RdyH.cons rfl (fun K2 hK => ?_) RdyH.nil
                  obtain ⟨wd2, hwd⟩ : ∃ x, x = wd1.alloc (.cells #[.bool N, .int .i64 s, .slice y1 y2 y3] 100) := ⟨_, rfl⟩
                  have hb : Below wd1.heap.size wd1 wd2 := by rw [hwd]; exact below_alloc _ _
                  obtain ⟨bm, hbm⟩ : ∃ x, x = wd1.heap.size := ⟨_, rfl⟩
                  have HK := Lib.hid (show wd2.heap[bm]? = some (.cells #[.bool N, .int .i64 s, .slice y1 y2 y3] 100 (0, 0)) from by rw [hwd, hbm]; exact heap_alloc_new _ _)
                  have HB2 := Lib.hid (Below.tr HB1.out hb)
                  have HX2 := Lib.hid (blk_keep2 HX1.out hb)
                  have HS2 := Lib.hid (blk_keep2 HS1.out hb)
                  have HH2 := Lib.hid (HH1.out.keep hb)
                  have HL2 := Lib.hid (HL1.out.keep hb)
                  have HI2 := Lib.hid (HI1.out.keep hb)
                  have HY2 := Lib.hid (HY.out.keep hb)
                  go_simp
                  rw [← hwd, ← hbm]
                  clear hwd hbm hb
                  refine hK _ _ HS2.out ?_
                  clear hK K2
                  refine wpAnyH_ready (rs := [1]) (by kernel_rfl) (by simp) ?_
                  refine RdyH.cons rfl (fun K2 hK => ?_) RdyH.nil
                  have gx2 := aCell HX2.out 2 rfl
                  go_simp
                  refine hK _ _ HS2.out ?_
                  clear hK K2 gx2
                  refine wpAnyH_ready (rs := [9]) (by kernel_rfl) (by simp) ?_
                  refine RdyH.cons rfl (fun K2 hK => ?_) RdyH.nil
                  obtain ⟨cs, s1, s2, s3⟩ := HL2.out
                  have hl2 : (((bd.take j).take 5).map ofLt).length + 1 ≤ 100000000000 := by rw [List.length_map, List.length_take]; omega
                  refine step_append_own_g rfl (.tmp 33) (.tmp 40) 96 rfl elemLits rfl s3 (m := 1) [.bool N, .int .i64 s, .slice y1 y2 y3] rfl rfl (fun k y hk => aCell HK.out k (by simpa using hk)) (by intro u hu; simp at hu; rcases hu with rfl | rfl | rfl <;> rfl) hl2 HB2.out.size ?_
                  intro v9 wd3 h1 h2 h3
                  have hapI : ∀ b n u (xs : List Value), wd2.ownsRow b 3 1 u n xs → u.ownBlock = none ∨ u.ownBlock ≠ (Value.slice pa pn pc).ownBlock := fun b n u xs h => rows_apart h s3 (by decide)
                  have HL3 := Lib.hid (show OLit w3.heap.size wd3 v9 (((bd.take (j + 1)).take 5).map ofLt) from by
                    rw [HT5.out h5]
                    refine ownS_snoc s1 (fun i h h' => ⟨?_, (s2 i h h').2⟩) ?_ rfl h1
                    · obtain ⟨⟨u, e, k1⟩, _⟩ := s2 i h h'
                      exact ⟨u, e, World.ownsRow.kept k1 h3 (hapI _ _ _ _ k1)⟩
                    · exact ⟨_, rfl, World.ownsRow.kept HY2.out h3 (hapI _ _ _ _ HY2.out)⟩)
                  have HH3 := Lib.hid (show OwnInts w3.heap.size wd3 (.slice ha hn2 hc4) (A.take 5) from World.ownsRow.kept HH2.out h3 (hapI _ _ _ _ HH2.out))
                  have hbx' := block_grown s3 h3 HX2.out (by decide)
                  have hb8' := block_grown s3 h3 HS2.out (by decide)
                  have HX3 := Lib.hid hbx'
                  have HS3 := Lib.hid hb8'
                  have HB3 := Lib.hid (HB2.out.trans h2)
                  obtain ⟨za, zn, zc, rfl⟩ := row_slice h1
                  clear s1 s2 s3 h1 h2 h3 hapI hbx' hb8' hl2
                  refine hK _ _ HS3.out ?_
                  clear hK K2
                  refine wpAnyH_take (i := 10) (v := ?_) rfl (by kernel_rfl) (by kernel_rfl) (by kernel_rfl) (fun _ _ _ h => h) (Or.inl ⟨by rfl, ?_⟩) HS3.out ?_
                  rotate_left
                  focus (intro w hS; clear hS; first | (go_simp; done) | (go_simp; with_reducible rfl))
                  simp only [Act.put, List.getElem_toArray, List.getElem_cons_zero, List.getElem_cons_succ, List.setIfInBounds_toArray, List.set_cons_zero, List.set_cons_succ]
                  refine wpAnyH_ready (rs := [11]) (by kernel_rfl) (by simp) ?_
                  refine RdyH.cons rfl (fun K2 hK => ?_) RdyH.nil
                  have x1 := aCell HX3.out 2 rfl
                  have x2 := frozen_of_row wd3 bx 2 _ _ HX3.out
                  have hb8' := (heap_setCell_other wd3 ⟨bx, 2, none⟩ b8 (.slice za zn zc) Hn8.out.symm).trans HS3.out
                  have HS4 := Lib.hid hb8'
                  have hgr := grown_setCell wd3 bx 2 (.slice za zn zc)
                  have HX4 := Lib.hid (show (wd3.setCell ⟨bx, 2, none⟩ (.slice za zn zc)).heap[bx]? = some (.cells #[.int .i64 hr, .slice ha hn2 hc4, .slice za zn zc] 98 (0, 0)) from by rw [heap_setCell_same wd3 bx 2 _ _ (.slice za zn zc) HX3.out]; rfl)
                  have HH4 := Lib.hid (show OwnInts w3.heap.size (wd3.setCell ⟨bx, 2, none⟩ (.slice za zn zc)) (.slice ha hn2 hc4) (A.take 5) from World.ownsRow.kept HH3.out hgr (int_apart (by decide) HX3.out _ _ _ _ HH3.out))
                  have HL4 := Lib.hid (HL3.out.apart hgr (lit_apart (by decide) HX3.out HL3.out) fun b n u A h => int_apart (by decide) HX3.out _ _ _ _ h)
                  have HB4 := Lib.hid (show Below w3.heap.size w3 (wd3.setCell ⟨bx, 2, none⟩ (.slice za zn zc)) from HB3.out.trans ⟨rfl, rfl, rfl, by simp, fun k hk => heap_setCell_other wd3 ⟨bx, 2, none⟩ k _ (by show k ≠ bx; have := Hbxg.out; omega)⟩)
                  clear hgr
                  go_simp
                  refine hK _ _ hb8' ?_
                  clear hK K2 x1 x2 hb8'
                  generalize wd3.setCell ⟨bx, 2, none⟩ (.slice za zn zc) = wd4 at *
                  refine wpAnyH_done (by kernel_rfl) ?_ _
                  go_wp2_with fail
                  go_roundw
                  case rel => exact ⟨j + 1, za, zn, zc, by go_num, by omega, HX4.out, HH4.out, HL4.out, HB4.out⟩
                  case measure => simp [intOf]; omega
            · have hj5 : ¬ (j : Int) < 5 := by omega
              have HL9 := Lib.hid (show OLit w3.heap.size w7 (.slice pa pn pc) (((bd.take (j + 1)).take 5).map ofLt) from by rw [HT9.out h5]; exact HL7.out)
              go_wp2_with fail
              go_roundw
              case rel => exact ⟨j + 1, pa, pn, pc, by go_num, by omega, HX7.out, HH7.out, HL9.out, HB7.out⟩
              case measure => simp [intOf]; omega
          · obtain rfl : bn = j := by omega
            have HLe := Lib.hid (show OLit w3.heap.size wy (.slice pa pn pc) ((bd.take 5).map ofLt) from by
              have := HL.out
              rw [Hbn.out, List.take_length] at this; exact this)
            obtain ⟨w8, hw8⟩ : ∃ x, x = wy.alloc (.cells #[.int .i64 hr, .slice ha hn2 hc4, .slice pa pn pc] 98) := ⟨_, rfl⟩
            have hb8 : Below wy.heap.size wy w8 := by rw [hw8]; exact below_alloc _ _
            obtain ⟨bk, hbk⟩ : ∃ x, x = wy.heap.size := ⟨_, rfl⟩
            have HK := Lib.hid (show w8.heap[bk]? = some (.cells #[.int .i64 hr, .slice ha hn2 hc4, .slice pa pn pc] 98 (0, 0)) from by rw [hw8, hbk]; exact heap_alloc_new _ _)
            have HB8 := Lib.hid (Below.tr HB.out hb8)
            have HBw := Lib.hid (show Below w.heap.size w w8 from Below.tr Hb3.out (Below.tr HB.out hb8))
            have HL8 := Lib.hid (HLe.out.keep hb8)
            have HH8 := Lib.hid (HH.out.keep hb8)
            obtain ⟨cs, s1, s2, s3⟩ := HO3.out.keep (Below.tr HB.out hb8)
            have Hs1 := Lib.hid s1
            have Hs2 := Lib.hid s2
            have Hs3 := Lib.hid s3
            have Hw8 := Lib.hid hw8
            have Hbk := Lib.hid hbk
            have gx0 := aCell HX.out 0 rfl
            have gx1 := aCell HX.out 1 rfl
            have gx2 := aCell HX.out 2 rfl
            have hl2 : ((l.take k).map ofRu).length + 1 ≤ 100000000000 := by rw [List.length_map, List.length_take]; omega
            clear hw8 hb8 hbk s1 s2 s3 HL HLe HH
            go_wp2_with (first | (at_builtin; rw [← Hw8.out, ← Hbk.out]; refine append_own rfl (.tmp 44) (.tmp 46) 27 rfl elemRules rfl Hs3.out (m := 1) [.int .i64 hr, .slice ha hn2 hc4, .slice pa pn pc] rfl rfl (fun k y hk => aCell HK.out k (by simpa using hk)) (by intro u hu; simp at hu; rcases hu with rfl | rfl | rfl <;> rfl) hl2 HBw.out.size ?_; intro v9 w9 h91 h92 h93))
            have hapI : ∀ b n u (xs : List Value), w8.ownsRow b 3 1 u n xs → u.ownBlock = none ∨ u.ownBlock ≠ (Value.slice oa on oc).ownBlock := fun b n u xs h => rows_apart h Hs3.out (by decide)
            have hapL : ∀ {B v l}, OLit B w8 v l → v.ownBlock = none ∨ v.ownBlock ≠ (Value.slice oa on oc).ownBlock := fun {B v l} h => by obtain ⟨_, _, _, h3⟩ := h; exact rows_apart h3 Hs3.out (by decide)
            have HO9 := Lib.hid (show ORul w.heap.size w9 v9 ((l.take (k + 1)).map ofRu) from by
              rw [HTk.out]
              refine ownS_snoc Hs1.out (fun i h h' => ⟨?_, (Hs2.out i h h').2⟩) ?_ rfl h91
              · obtain ⟨⟨u, v, e, k1, k2⟩, _⟩ := Hs2.out i h h'
                exact ⟨u, v, e, World.ownsRow.kept k1 h93 (hapI _ _ _ _ k1), k2.apart h93 (hapL k2) fun b n u A h => hapI _ _ _ _ h⟩
              · exact ⟨_, _, rfl, World.ownsRow.kept (HH8.out.base Hb3.out.size) h93 (hapI _ _ _ _ HH8.out), (HL8.out.mono Hb3.out.size).apart h93 (hapL HL8.out) fun b n u A h => hapI _ _ _ _ h⟩)
            have HB9 := Lib.hid (HBw.out.trans h92)
            obtain ⟨qa, qn, qk, rfl⟩ := row_slice h91
            clear h91 h92 h93 hl2 gx0 gx1 gx2 hapI hapL
            go_wp2_with fail
            go_roundw
            case rel => exact ⟨k + 1, qa, qn, qk, rfl, by go_num, by omega, by omega, HB9.out, HO9.out⟩
            case measure => simp [intOf]; omega
      · have hk11 : (11 : Int) < (k : Int) := by omega
        obtain rfl : k = 12 := by omega
        have HE := Lib.hid HO3.out
        go_wp2_with fail
        go_ret
        exact ⟨oa, on, oc, rfl, HE.out, Hb3.out⟩
    · obtain rfl : n = k := by omega
      have HE := Lib.hid (show ORul w.heap.size wx (.slice oa on oc) (ofRl l) from by
        have := HO.out
        rw [Hn.out, List.take_length] at this
        unfold ofRl
        rw [List.take_of_length_le (by rw [← Hn.out]; exact hk12)]
        exact this)
      go_wp2_with fail
      go_ret
      exact ⟨oa, on, oc, rfl, HE.out, Hb.out⟩
#print axioms OfL_any
end Go.Proofs.Ythndplkjhbmfmaa


/- MatchNames: for every input the law returns true. -/
import Derived.Test.YtfplmdieeabgpaaOfs
import Derived.Test.YtfplmdieeabgpaaNam
import Derived.Test.YtfplmdieeabgpaaRvb
import Derived.Test.YtfplmdieeabgpaaFrame
import Derived.Test.YtfplmdieeabgpaaRows
import Derived.BigQuiet
namespace Go.Proofs.Ytfplmdieeabgpaa
open Go.RowKit
/-- a box of a query of the program -/
def Mx (w : World) (b : Nat) (x y : Value) : Prop := w.heap[b]? = some (.cells #[x, y] 33 (0, 0))
theorem Mx.keep {w w' : World} {b : Nat} {x y : Value} (h : Mx w b x y) (hb : Below w.heap.size w w') : Mx w' b x y := blk_keep2 h hb
/-- a box of a number -/
def Ix (w : World) (b : Nat) (x : Int) : Prop := w.heap[b]? = some (.cells #[.int .i64 x] 3 (0, 0))
theorem Ix.keep {w w' : World} {b : Nat} {x : Int} (h : Ix w b x) (hb : Below w.heap.size w w') : Ix w' b x := blk_keep2 h hb
structure Bn (w wr : World) (bp bi : Nat) (x0 x1 : Value) (n : Int) : Prop where
  b : Below w.heap.size w wr
  p : Bx wr bp x0 x1
  i : Ix wr bi n
theorem Bn.keep {w wr w' : World} {bp bi : Nat} {x0 x1 : Value} {n : Int} (h : Bn w wr bp bi x0 x1 n) (hb : Below wr.heap.size wr w') : Bn w w' bp bi x0 x1 n := ⟨Below.tr h.b hb, h.p.keep hb, h.i.keep hb⟩
theorem Bn.new {w w1 w2 : World} {x0 x1 : Value} {n : Int} (h1 : w1 = w.alloc (.cells #[x0, x1] 25)) (h2 : w2 = w1.alloc (.cells #[.int .i64 n] 3)) {bp bi : Nat} (hp : bp = w.heap.size) (hi : bi = bp + 1) : Bn w w2 bp bi x0 x1 n := by
  have k1 : Below w.heap.size w w1 := by rw [h1]; exact below_alloc _ _
  have k2 : Below w1.heap.size w1 w2 := by rw [h2]; exact below_alloc _ _
  have z : w1.heap.size = w.heap.size + 1 := by rw [h1]; simp
  refine ⟨Below.tr k1 k2, Bx.keep (by rw [hp, h1]; exact heap_alloc_new w _) k2, ?_⟩
  rw [hi, hp, ← z, h2]; exact heap_alloc_new w1 _
theorem by_small (x : Int) : ∃ B : Nat, B < 8 ∧ wrap64 ((IntKind.u64.wrap x).tmod 8) = B := by
  have h : 0 ≤ IntKind.u64.wrap x := by rw [IntKind.wrap_u64]; omega
  refine ⟨(IntKind.u64.wrap x % 8).toNat, by omega, ?_⟩
  rw [Int.tmod_eq_emod_of_nonneg h, IntWalk.wrap64_in _ (by omega)]; omega
theorem own_ne {w : World} {base size n bo : Nat} {e t : TypeId} {v : Value} {xs : List Value} {cs : Array Value} {fr : Nat × Nat} (h : w.ownsRow base e size v n xs) (hb : w.heap[bo]? = some (.cells cs t fr)) (hne : t ≠ e) {g : Nat} (hg : v.ownBlock = some g) : bo ≠ g := by
  rcases h.2 with ⟨rfl, _⟩ | ⟨g', cap, cur, rfl, _, hh, _⟩
  · cases hg
  · cases hg
    rintro rfl
    rw [hb] at hh
    injection hh with hh
    injection hh with _ hh _
    exact hne hh
theorem own_some {base : Nat} {w : World} {a : Option Addr} {n c : Nat} {l : List Int} (h : OwnInts base w (.slice a n c) l) (hl : 0 < l.length) : ∃ g, a = some ⟨g, 0, none⟩ := by
  rcases h.2 with ⟨_, h0⟩ | ⟨g, cap, cur, e, _⟩
  · omega
  · injection e with e
    exact ⟨g, e⟩
/-- the first k of a list have their other names -/
def mix (b : Nat) (l : List Int) (k : Nat) : List Int := (l.take k).map (tn b) ++ l.drop k
theorem mix_len (b : Nat) (l : List Int) (k : Nat) : (mix b l k).length = l.length := by unfold mix; simp; omega
theorem mix_0 (b : Nat) (l : List Int) : mix b l 0 = l := by simp [mix]
theorem mix_all (b : Nat) (l : List Int) : mix b l l.length = l.map (tn b) := by simp [mix]
theorem mix_at {b : Nat} {l : List Int} {k : Nat} (h : k < l.length) : (mix b l k).getD k 0 = l.getD k 0 := by
  unfold mix
  rw [List.getD_eq_getElem?_getD, List.getElem?_append_right (by simp; omega), List.length_map, List.length_take, Nat.min_eq_left (by omega), Nat.sub_self, List.getElem?_drop, List.getD_eq_getElem?_getD]; rfl
theorem mix_set {b : Nat} {l : List Int} {k : Nat} (h : k < l.length) : (mix b l k).set k (tn b (l.getD k 0)) = mix b l (k + 1) := by
  have e : l.getD k 0 = l[k] := by rw [List.getD_eq_getElem?_getD, List.getElem?_eq_getElem h]; rfl
  have d : l.drop k = l[k] :: l.drop (k + 1) := List.drop_eq_getElem_cons h
  unfold mix
  rw [List.set_append_right _ _ (by simp; omega), List.length_map, List.length_take, Nat.min_eq_left (by omega), Nat.sub_self, List.take_succ_eq_append_getElem h, d, e, List.map_append, List.append_assoc]; rfl
/-- the first k atoms have -/
def mixL (b : Nat) (l : List HAt) (k : Nat) : List HAt := (l.take k).map (mA b) ++ l.drop k
theorem mixL_len (b : Nat) (l : List HAt) (k : Nat) : (mixL b l k).length = l.length := by unfold mixL; simp; omega
theorem mixL_0 (b : Nat) (l : List HAt) : mixL b l 0 = l := by simp [mixL]
theorem mixL_all (b : Nat) (l : List HAt) : mixL b l l.length = l.map (mA b) := by simp [mixL]
theorem mixL_at {b : Nat} {l : List HAt} {k : Nat} (h : k < l.length) : (mixL b l k).getD k (0, []) = l.getD k (0, []) := by
  unfold mixL
  rw [List.getD_eq_getElem?_getD, List.getElem?_append_right (by simp; omega), List.length_map, List.length_take, Nat.min_eq_left (by omega), Nat.sub_self, List.getElem?_drop, List.getD_eq_getElem?_getD]; rfl
theorem mixL_set {b : Nat} {l : List HAt} {k : Nat} (h : k < l.length) : (mixL b l k).set k (aR l k, (aA l k).map (tn b)) = mixL b l (k + 1) := by
  have d : l.drop k = l[k] :: l.drop (k + 1) := List.drop_eq_getElem_cons h
  unfold mixL
  rw [List.set_append_right _ _ (by simp; omega), List.length_map, List.length_take, Nat.min_eq_left (by omega), Nat.sub_self, List.take_succ_eq_append_getElem h, d, List.map_append, List.append_assoc, at_get h]; rfl
theorem mixL_same {b : Nat} {l : List HAt} {k : Nat} (h : k < l.length) : (mixL b l k).set k (aR l k, aA l k) = mixL b l k := by
  have h' : k < (mixL b l k).length := by rw [mixL_len]; exact h
  have e : (aR l k, aA l k) = (mixL b l k)[k] := by
    have := mixL_at (b := b) h
    rw [List.getD_eq_getElem?_getD, List.getElem?_eq_getElem h'] at this
    rw [show (aR l k, aA l k) = l.getD k (0, []) from rfl, ← this]; rfl
  rw [e, List.set_getElem_self]
theorem Kp.blk2 {g : Nat} {w w' : World} (k : Kp g w w') {b : Nat} {o : Obj} (h : w.heap[b]? = some o) (hne : b ≠ g) : w'.heap[b]? = some o := (k.blk b hne).trans h
theorem Kp.row {g base size n : Nat} {e : TypeId} {w w' : World} {v : Value} {xs : List Value} (k : Kp g w w') (h : w.ownsRow base e size v n xs) (hne : ∀ b, v.ownBlock = some b → b ≠ g) : w'.ownsRow base e size v n xs := own_block h fun b hb => k.blk b (hne b hb)
theorem SQ.rowNe {base : Nat} {w : World} {hv bv : Value} {vs : List Value} {q : HQ} (k : SQ base w hv bv vs q) {u : Value} {n : Nat} {xs : List Value} (h : w.ownsRow base 3 1 u n xs) {g : Nat} (hg : u.ownBlock = some g) : ∀ b, bv.ownBlock = some b → b ≠ g := fun b hb e => by
  subst e
  rcases rows_apart h k.b (by decide) with h1 | h1
  · rw [h1] at hg; cases hg
  · exact h1 (by rw [hg, hb])
/-- a number of the Head is set -/
theorem SQ.setH {base : Nat} {w : World} {g n cap : Nat} {bv : Value} {vs : List Value} {q : HQ} (s : SQ base w (.slice (some ⟨g, 0, none⟩) n cap) bv vs q) (hn : n = q.1.length) (k : Nat) (x : Int) :
    SQ base (w.setCell ⟨g, k, none⟩ (.int .i64 x)) (.slice (some ⟨g, 0, none⟩) n cap) bv vs (q.1.set k x, q.2) ∧ Kp g w (w.setCell ⟨g, k, none⟩ (.int .i64 x)) := by
  obtain ⟨h1, h2⟩ := own_setI s.h hn k x
  refine ⟨⟨h1, s.l, h2.row s.b (s.rowNe s.h rfl), fun i hi => h2.row (s.a i hi) fun b hb e => ?_, s.d, s.e⟩, h2⟩
  exact s.e i b hb (by rw [e]; rfl)
theorem atC_arg : ∀ {l : List HAt} {vs : List Value} (i : Nat) (A : List Int), atC (l.set i (aR l i, A)) vs = atC l vs
  | [], _, _, _ => by simp [atC]
  | a :: l, [], i, A => by cases i <;> simp [atC]
  | a :: l, v :: vs, 0, A => by simp [atC, aR]
  | a :: l, v :: vs, i + 1, A => by
    have := atC_arg (l := l) (vs := vs) i A
    show Value.int .i64 a.1 :: v :: atC (l.set i (aR (a :: l) (i + 1), A)) vs = Value.int .i64 a.1 :: v :: atC l vs
    rw [show aR (a :: l) (i + 1) = aR l i by simp [aR], this]
theorem setA_at (l : List HAt) (i : Nat) (x : HAt) (hi : i < l.length) (j : Nat) : (l.set i x).getD j (0, []) = if j = i then x else l.getD j (0, []) := by
  rw [List.getD_eq_getElem?_getD, List.getElem?_set, List.getD_eq_getElem?_getD]
  by_cases e : i = j
  · subst e; simp [hi]
  · rw [if_neg e, if_neg (fun q => e q.symm)]
/-- an argument of an atom is set -/
theorem SQ.setA {base : Nat} {w : World} {hv bv : Value} {vs : List Value} {q : HQ} (s : SQ base w hv bv vs q) {i : Nat} (hi : i < q.2.length) {g n cap : Nat} (hu : vs.getD i (.bool false) = .slice (some ⟨g, 0, none⟩) n cap) (hn : n = (aA q.2 i).length) (k : Nat) (x : Int) :
    SQ base (w.setCell ⟨g, k, none⟩ (.int .i64 x)) hv bv vs (q.1, q.2.set i (aR q.2 i, (aA q.2 i).set k x)) ∧ Kp g w (w.setCell ⟨g, k, none⟩ (.int .i64 x)) := by
  have ha := s.a i hi
  rw [hu] at ha
  obtain ⟨h1, h2⟩ := own_setI ha hn k x
  have hgi : (vs.getD i (.bool false)).ownBlock = some g := by rw [hu]; rfl
  refine ⟨⟨h2.row s.h fun b hb e => s.e i g hgi (by rw [hb, e]), by simpa using s.l, ?_, fun j hj => ?_, s.d, s.e⟩, h2⟩
  · show World.ownsRow _ _ _ _ _ (q.2.set i _).length (atC (q.2.set i _) vs)
    rw [atC_arg, List.length_set]
    exact h2.row s.b (s.rowNe ha rfl)
  · have hj' : j < q.2.length := by simpa using hj
    show OwnInts _ _ _ (aA (q.2.set i _) j)
    unfold aA
    rw [setA_at _ _ _ hi]
    by_cases e : j = i
    · subst e
      rw [if_pos rfl, hu]; exact h1
    · rw [if_neg e]
      refine h2.row (s.a j hj') fun b hb e2 => ?_
      subst e2
      rcases Nat.lt_or_gt_of_ne e with h | h
      · exact s.d j i b h hb hgi
      · exact s.d i j b h hgi hb
theorem SQ.cells {base : Nat} {w : World} {a : Option Addr} {n c : Nat} {hv : Value} {vs : List Value} {q : HQ} (s : SQ base w hv (.slice a n c) vs q) {i : Nat} (hi : i < q.2.length) :
    ∃ g, a = some ⟨g, 0, none⟩ ∧ w.cell? ⟨g, i * 2, none⟩ = some (.int .i64 (aR q.2 i)) ∧ w.cell? ⟨g, i * 2 + 1, none⟩ = some (vs.getD i (.bool false)) := by
  have hb := s.b
  rcases hb.2 with ⟨_, h0⟩ | ⟨g, cap, cur, e, _⟩
  · omega
  · injection e with e1 e2 e3
    subst e1; subst e2
    obtain ⟨h1, h2⟩ := atC_at s.l hi
    refine ⟨g, rfl, ?_, ?_⟩
    · rw [World.ownsRow.cellAt hb (i * 2) (by omega), h1]
    · rw [World.ownsRow.cellAt hb (i * 2 + 1) (by omega), h2]
theorem SQ.turn {base B i k g n cap : Nat} {w : World} {hv bv : Value} {vs : List Value} {hd : List Int} {l : List HAt} (s : SQ base w hv bv vs (hd, (mixL B l i).set i (aR l i, mix B (aA l i) k))) (hi : i < l.length) (hk : k < (aA l i).length)
    (hu : vs.getD i (.bool false) = .slice (some ⟨g, 0, none⟩) n cap) (hn : n = (aA l i).length) :
    w.cell? ⟨g, k, none⟩ = some (.int .i64 ((aA l i).getD k 0)) ∧ w.frozen? ⟨g, k, none⟩ = false ∧ OwnInts base w (.slice (some ⟨g, 0, none⟩) n cap) (mix B (aA l i) k) ∧
      SQ base (w.setCell ⟨g, k, none⟩ (.int .i64 (tn B ((aA l i).getD k 0)))) hv bv vs (hd, (mixL B l i).set i (aR l i, mix B (aA l i) (k + 1))) ∧ Kp g w (w.setCell ⟨g, k, none⟩ (.int .i64 (tn B ((aA l i).getD k 0)))) := by
  have hm : i < (mixL B l i).length := by rw [mixL_len]; exact hi
  have hP : i < ((mixL B l i).set i (aR l i, mix B (aA l i) k)).length := by rw [List.length_set]; exact hm
  have e1 : aA ((mixL B l i).set i (aR l i, mix B (aA l i) k)) i = mix B (aA l i) k := by unfold aA; rw [setA_at _ _ _ hm, if_pos rfl]
  have e2 : aR ((mixL B l i).set i (aR l i, mix B (aA l i) k)) i = aR l i := by
    show (((mixL B l i).set i (aR l i, mix B (aA l i) k)).getD i (0, [])).1 = _
    rw [setA_at _ _ _ hm, if_pos rfl]
  have hn2 : n = (mix B (aA l i) k).length := by rw [mix_len]; exact hn
  have ha := s.a i hP
  rw [hu, show aA (hd, (mixL B l i).set i (aR l i, mix B (aA l i) k)).2 i = _ from e1] at ha
  obtain ⟨h1, h2⟩ := s.setA hP hu (by rw [show aA (hd, (mixL B l i).set i (aR l i, mix B (aA l i) k)).2 i = _ from e1]; exact hn2) k (tn B ((aA l i).getD k 0))
  have hc := ownI_cell ha hn2 (k := k) (by rw [mix_len]; exact hk)
  rw [mix_at hk] at hc
  refine ⟨hc, own_fz ha hn2 k, ha, ?_, h2⟩
  have e3 : ((mixL B l i).set i (aR l i, mix B (aA l i) k)).set i (aR ((mixL B l i).set i (aR l i, mix B (aA l i) k)) i, (aA ((mixL B l i).set i (aR l i, mix B (aA l i) k)) i).set k (tn B ((aA l i).getD k 0))) = (mixL B l i).set i (aR l i, mix B (aA l i) (k + 1)) := by
    rw [e1, e2, List.set_set, mix_set hk]
  rw [show ((hd, (mixL B l i).set i (aR l i, mix B (aA l i) k)).1, (hd, (mixL B l i).set i (aR l i, mix B (aA l i) k)).2.set i (aR (hd, (mixL B l i).set i (aR l i, mix B (aA l i) k)).2 i, (aA (hd, (mixL B l i).set i (aR l i, mix B (aA l i) k)).2 i).set k (tn B ((aA l i).getD k 0)))) = (hd, (mixL B l i).set i (aR l i, mix B (aA l i) (k + 1))) from congrArg (hd, ·) e3] at h1
  exact h1
theorem Bn.grown {w wr w' : World} {bp bi base : Nat} {x0 x1 : Value} {n : Int} (h : Bn w wr bp bi x0 x1 n) (k : Below base wr w') (hp : bp < base) (hi : bi < base) (hw : w.heap.size ≤ bp) : Bn w w' bp bi x0 x1 n :=
  ⟨h.b.trans (k.mono (by omega)), (k.block bp hp).trans h.p, (k.block bi hi).trans h.i⟩
/-- a box of an atom -/
def Ax (w : World) (b : Nat) (r : Int) (y : Value) : Prop := w.heap[b]? = some (.cells #[.int .i64 r, y] 88 (0, 0))
theorem Bn.kp {w wr w' : World} {bp bi g : Nat} {x0 x1 : Value} {n : Int} (h : Bn w wr bp bi x0 x1 n) (k : Kp g wr w') (hp : bp < g) (hi : bi < g) (hw : w.heap.size ≤ bp) : Bn w w' bp bi x0 x1 n := ⟨k.below h.b (by omega), k.blk2 h.p (by omega), k.blk2 h.i (by omega)⟩
/-- a number is given its other name -/
theorem turn_any (b : Nat) (bi : Nat) (x : Int) (w : World) (hb : b < 8) (hw : Ix w bi b) :
    Calls Try.prog 61 #[.int .i64 x, .pointer (some ⟨bi, 0, none⟩)] w fun e w' => e = .returned (.int .i64 (tn b x)) ∧ w' = w := by
  by_cases h : x < 0
  · have R := Lib.hid (show tn b x = x from by unfold tn; rw [if_pos (.inl h)])
    go_enter Try.func61, Try.ntmps61
    go_wp2_with fail
    go_ret
    exact ⟨congrArg (fun z => Ending.returned (.int .i64 z)) R.out.symm, rfl⟩
  · by_cases h7 : x > 7
    · have R := Lib.hid (show tn b x = x from by unfold tn; rw [if_pos (.inr h7)])
      go_enter Try.func61, Try.ntmps61
      go_wp2_with fail
      go_ret
      exact ⟨congrArg (fun z => Ending.returned (.int .i64 z)) R.out.symm, rfl⟩
    · obtain ⟨i, rfl⟩ : ∃ i : Nat, x = i := ⟨x.toNat, by omega⟩
      have R := Lib.hid (show tn b (i : Int) = ((i : Int) + (b : Int)) % 8 from by rw [tn_nat (by omega)]; omega)
      have g := aCell hw 0 rfl
      clear hw
      go_enter Try.func61, Try.ntmps61
      go_wp2_with fail
      go_ret
      exact ⟨congrArg (fun z => Ending.returned (.int .i64 z)) R.out.symm, rfl⟩
set_option maxRecDepth 100000 in
set_option maxHeartbeats 16000000 in
theorem names_any (q : HQ) (l : List HAt) (by0 : Int) (v x : Value) (w : World) (hq : Qr w v q) (hl : Atoms w x l) :
    Calls Try.prog 17 #[v, x, .int .i64 by0] w fun e w' => e = .returned (.bool true) ∧ Below w.heap.size w w' := by
  obtain ⟨h0, b0, rfl, hh, hb⟩ := hq
  have Hq := Lib.hid (show Qr w (.agg #[h0, b0]) q from ⟨_, _, rfl, hh, hb⟩)
  obtain ⟨ha, hc, rfl⟩ := ints_slice hh
  obtain ⟨ba, bc, rfl⟩ := atoms_slice hb
  obtain ⟨la, lc, rfl⟩ := atoms_slice hl
  obtain ⟨n0, hn0⟩ : ∃ x, x = q.1.length := ⟨_, rfl⟩
  obtain ⟨n1, hn1⟩ : ∃ x, x = q.2.length := ⟨_, rfl⟩
  obtain ⟨ln, hln⟩ : ∃ x, x = l.length := ⟨_, rfl⟩
  rw [← hn0, ← hn1] at Hq
  rw [← hln] at hl
  rw [← hn0, ← hn1, ← hln]
  have Hl := Lib.hid hl
  obtain ⟨w1, hw1⟩ : ∃ x, x = w.alloc (.cells #[.slice ha n0 hc, .slice ba n1 bc] 25) := ⟨_, rfl⟩
  obtain ⟨w2, hw2⟩ : ∃ x, x = w1.alloc (.cells #[.int .i64 by0] 3) := ⟨_, rfl⟩
  obtain ⟨bp, hbp⟩ : ∃ x, x = w.heap.size := ⟨_, rfl⟩
  obtain ⟨bi, hbi⟩ : ∃ x, x = bp + 1 := ⟨_, rfl⟩
  have HB := Lib.hid (Bn.new hw1 hw2 hbp hbi)
  have Hw1 := Lib.hid hw1
  have Hw2 := Lib.hid hw2
  have Hbpe := Lib.hid hbp
  have Hbie := Lib.hid hbi
  have Hb2 := Lib.hid (show bi < w2.heap.size from (Array.getElem?_eq_some_iff.1 HB.out.i).1)
  clear hh hb hw1 hw2 hbp hbi hn0 hn1 hln hl
  go_enter Try.func17, Try.ntmps17
  go_upto_region 1 with fail
  rw [← Hw1.out, ← Hw2.out, ← Hbpe.out, ← Hbie.out]
  clear Hw1 Hw2
  have g0 := aCell HB.out.p 0 rfl; have g1 := aCell HB.out.p 1 rfl; have g2 := aCell HB.out.i 0 rfl
  go_wp2_with fail
  refine (ofS_any _ _ _ (Hq.out.keep HB.out.b)).mono ?_
  rintro e w3 ⟨hv, bv, vs, rfl, hS, hb⟩
  have HB := Lib.hid (HB.out.keep hb)
  have hbz3 := hb.size
  have HS := Lib.hid hS
  obtain ⟨ua, uk, rfl⟩ := ints_slice hS.h.ints
  obtain ⟨va, vk, rfl⟩ := Atoms.own hS.own
  clear hb hS g0 g1 g2
  obtain ⟨vn, hvn⟩ : ∃ x, x = (ofQ q).2.length := ⟨_, rfl⟩
  have Hvn := Lib.hid hvn
  rw [← hvn] at HS ⊢
  clear hvn
  obtain ⟨un, hun⟩ : ∃ x, x = (ofQ q).1.length := ⟨_, rfl⟩
  have Hun := Lib.hid hun
  rw [← hun] at HS ⊢
  clear hun
  have Hz2 := Lib.hid (show bi < w2.heap.size from Hb2.out)
  obtain ⟨w4, hw4⟩ : ∃ x, x = w3.alloc (.cells #[.slice ua un uk, .slice va vn vk] 33) := ⟨_, rfl⟩
  have hb : Below w3.heap.size w3 w4 := by rw [hw4]; exact below_alloc _ _
  obtain ⟨bo, hbo⟩ : ∃ x, x = w3.heap.size := ⟨_, rfl⟩
  have HM := Lib.hid (show Mx w4 bo (.slice ua un uk) (.slice va vn vk) from by rw [hw4, hbo]; exact heap_alloc_new w3 _)
  have HB0 := Lib.hid HB.out
  have HB := Lib.hid (HB.out.keep hb)
  have HS := Lib.hid (HS.out.keep hb)
  have Hw4 := Lib.hid hw4
  have Hbz := Lib.hid (show w2.heap.size ≤ bo from by rw [hbo]; exact hbz3)
  have Hbo := Lib.hid hbo
  have Hb3 := Lib.hid (show bi < bo from by rw [hbo]; exact (Array.getElem?_eq_some_iff.1 HB0.out.i).1)
  clear hb hw4 hbo hbz3
  go_upto_region 2 with fail
  rw [← Hw4.out, ← Hbo.out]
  clear Hw4
  have g2 := aCell HB.out.i 0 rfl
  have gf := frozen_of_row w4 _ 0 _ _ HB.out.i
  obtain ⟨B, hB, hBe⟩ := by_small by0
  have HBs := Lib.hid (show Bn w (w4.setCell ⟨bi, 0, none⟩ (.int .i64 (B : Nat))) bp bi (.slice ha n0 hc) (.slice ba n1 bc) (B : Nat) from ⟨HB.out.b.setCell (show w.heap.size ≤ bi from by have := Hbie.out; have := Hbpe.out; omega) _, (heap_setCell_other w4 ⟨bi, 0, none⟩ bp _ (by have := Hbie.out; show bp ≠ bi; omega)).trans HB.out.p, by unfold Ix; rw [heap_setCell_same w4 _ 0 _ _ _ HB.out.i]; rfl⟩)
  have HMs := Lib.hid (show Mx (w4.setCell ⟨bi, 0, none⟩ (.int .i64 (B : Nat))) bo (.slice ua un uk) (.slice va vn vk) from (heap_setCell_other w4 ⟨bi, 0, none⟩ bo _ (by have := Hb3.out; show bo ≠ bi; omega)).trans HM.out)
  have HSs := Lib.hid (HS.out.set (j := 0) (x := .int .i64 (B : Nat)) Hz2.out)
  clear HB HM HS
  go_upto_region 3 with fail
  rw [hBe]
  clear g2 gf
  have HBn := Lib.hid hB
  clear hB hBe
  generalize w4.setCell ⟨bi, 0, none⟩ (.int .i64 (B : Nat)) = w5 at *
  have HB := Lib.hid HBs.out
  have HM := Lib.hid HMs.out
  have HS := Lib.hid HSs.out
  clear HBs HMs HSs
  have g0 := aCell HM.out 0 rfl
  have g1 := aCell HM.out 1 rfl
  have Ho0 := Lib.hid (show ∃ o, o = ofQ q from ⟨_, rfl⟩)
  obtain ⟨o, ho⟩ := Ho0.out
  have Ho := Lib.hid ho
  rw [← ho] at HS Hun Hvn
  have hu9 : un ≤ 9 := by rw [Hun.out, ho]; show (q.1.take 9).length ≤ 9; rw [List.length_take]; omega
  have hv7 : vn ≤ 7 := by rw [Hvn.out, ho]; show ((q.2.take 7).map ofA).length ≤ 7; rw [List.length_map, List.length_take]; omega
  have Ha9 := Lib.hid (show ∀ i, i < o.2.length → (aA o.2 i).length ≤ 9 from fun i hi => by
    rw [ho] at hi ⊢
    have hi2 : i < ((q.2.take 7).map ofA).length := hi
    show (((q.2.take 7).map ofA).getD i (0, [])).2.length ≤ 9
    rw [List.getD_eq_getElem?_getD, List.getElem?_eq_getElem hi2, List.getElem_map]
    show List.length (List.take 9 _) ≤ 9
    rw [List.length_take]; omega)
  clear ho Ho0
  go_wp2_with fail
  go_loopw [34] (fun vi wr => ∃ k : Nat, vi = .int .i64 k ∧ k ≤ un ∧ Bn w wr bp bi (.slice ha n0 hc) (.slice ba n1 bc) (B : Nat) ∧ Mx wr bo (.slice ua un uk) (.slice va vn vk) ∧ SQ w2.heap.size wr (.slice ua un uk) (.slice va vn vk) vs (mix B o.1 k, o.2)) (fun vi _ => un - (intOf vi).toNat)
  case atStart => exact ⟨0, rfl, Nat.zero_le _, HB.out, HM.out, by rw [mix_0]; exact HS.out⟩
  case round =>
    clear HB HM HS g0 g1
    obtain ⟨k, rfl, hk, hb, hm, hs⟩ := hrel
    have HB := Lib.hid hb
    have HM := Lib.hid hm
    have HS := Lib.hid hs
    clear hb hm hs
    by_cases hlt : k < un
    · obtain ⟨g, rfl⟩ := own_some HS.out.h (by show 0 < (mix B o.1 k).length; rw [mix_len, ← Hun.out]; omega)
      have hun : un = (mix B o.1 k).length := by rw [mix_len]; exact Hun.out
      have hlo : k < o.1.length := by rw [← Hun.out]; exact hlt
      have hck := ownI_cell HS.out.h hun (k := k) (by rw [← hun]; exact hlt)
      rw [mix_at hlo] at hck
      obtain ⟨z, hz⟩ : ∃ z, z = o.1.getD k 0 := ⟨_, rfl⟩
      rw [← hz] at hck
      have hix := fun (w : World) => run_ix (P := Try.prog) (t := 22) (a := some ⟨g, 0, none⟩) (len := un) (cap := uk) (b := g) (off := 0) (s := 1) Try.underlying22 (by intro w; kernel_rfl) (fun _ => rfl) k w hlt
      simp only [Nat.mul_one, Nat.zero_add] at hix
      have Hgg := Lib.hid (own_lt HS.out.h (g := g) rfl)
      have Hz := Lib.hid hz
      have hgne : bo ≠ g := own_ne HS.out.h HM.out (by decide) rfl
      clear hz hun
      go_upto_region 7 with fail
      try simp only [Act.put]
      have HS0 := Lib.hid (show Mx wr.drew bo (.slice (some ⟨g, 0, none⟩) un uk) (.slice va vn vk) ∧ Ix wr.drew bi (B : Nat) from ⟨HM.out, HB.out.i⟩)
      have HW0 := Lib.hid (show Bn w wr.drew bp bi (.slice ha n0 hc) (.slice ba n1 bc) (B : Nat) from ⟨HB.out.b.drew, HB.out.p, HB.out.i⟩)
      have hck0 : wr.drew.cell? ⟨g, k, none⟩ = some (.int .i64 z) := hck
      have HST := Lib.hid (show SQ w2.heap.size (wr.drew.setCell ⟨g, k, none⟩ (.int .i64 (tn B z))) (.slice (some ⟨g, 0, none⟩) un uk) (.slice va vn vk) vs (mix B o.1 (k + 1), o.2) ∧ Kp g wr.drew (wr.drew.setCell ⟨g, k, none⟩ (.int .i64 (tn B z))) from by
        have hdr := (HS.out.keep (w' := wr.drew) (Below.refl _ _).drew).setH (by rw [mix_len]; exact Hun.out) k (tn B z)
        rw [show ((mix B o.1 k, o.2).1.set k (tn B z), (mix B o.1 k, o.2).2) = (mix B o.1 (k + 1), o.2) from by rw [Hz.out]; exact congrArg (·, o.2) (mix_set hlo)] at hdr
        exact hdr)
      have hfz : wr.drew.frozen? ⟨g, k, none⟩ = false := own_fz (HS.out.keep (w' := wr.drew) (Below.refl _ _).drew).h (by rw [mix_len]; exact Hun.out) k
      refine wp_region_held (S := fun w' => Mx w' bo (.slice (some ⟨g, 0, none⟩) un uk) (.slice va vn vk) ∧ Ix w' bi (B : Nat)) wideK ?_
      change wpAnyH _ _ _ _ _ _ _ _ (World.drew _)
      clear hck
      generalize wr.drew = wd0 at *
      refine wpAnyH_take (i := 0) (v := ?_) rfl (by kernel_rfl) (by kernel_rfl) (by kernel_rfl) (fun _ _ _ h => h) (Or.inl ⟨by rfl, ?_⟩) HS0.out ?_
      rotate_left
      focus (intro w hS; clear hS; first | (go_simp; done) | (go_simp; with_reducible rfl))
      simp only [Act.put, List.getElem_toArray, List.getElem_cons_zero, List.setIfInBounds_toArray, List.set_cons_zero, List.set_cons_succ]
      refine wpAnyH_take (i := 1) (v := ?_) rfl (by kernel_rfl) (by kernel_rfl) (by kernel_rfl) (fun _ _ _ h => h) (Or.inl ⟨by rfl, ?_⟩) HS0.out ?_
      rotate_left
      focus (intro w hS; have s0 := aCell hS.1 0 rfl; have s1 := aCell hS.1 1 rfl; clear hS; first | (go_simp; done) | (go_simp; with_reducible rfl))
      simp only [Act.put, List.getElem_toArray, List.getElem_cons_zero, List.getElem_cons_succ, List.setIfInBounds_toArray, List.set_cons_zero, List.set_cons_succ]
      refine wpAnyH_take (i := 2) (v := ?_) rfl (by kernel_rfl) (by kernel_rfl) (by kernel_rfl) (fun _ _ _ h => h) (Or.inl ⟨by rfl, ?_⟩) HS0.out ?_
      rotate_left
      focus (intro w hS; clear hS; first | (go_simp; done) | (go_simp; with_reducible rfl))
      simp only [Act.put, List.getElem_toArray, List.getElem_cons_zero, List.getElem_cons_succ, List.setIfInBounds_toArray, List.set_cons_zero, List.set_cons_succ]
      refine wpAnyH_take (i := 3) (v := ?_) rfl (by kernel_rfl) (by kernel_rfl) (by kernel_rfl) (fun _ _ _ h => h) (Or.inl ⟨by rfl, ?_⟩) HS0.out ?_
      rotate_left
      focus (intro w hS; clear hS; first | (go_simp; done) | (go_simp; with_reducible rfl))
      simp only [Act.put, List.getElem_toArray, List.getElem_cons_zero, List.getElem_cons_succ, List.setIfInBounds_toArray, List.set_cons_zero, List.set_cons_succ]
      refine wpAnyH_take (i := 4) (v := ?_) rfl (by kernel_rfl) (by kernel_rfl) (by kernel_rfl) (fun _ _ _ h => h) (Or.inl ⟨by rfl, ?_⟩) HS0.out ?_
      rotate_left
      focus (intro w hS; clear hS; first | (go_simp; done) | (go_simp; with_reducible rfl))
      simp only [Act.put, List.getElem_toArray, List.getElem_cons_zero, List.getElem_cons_succ, List.setIfInBounds_toArray, List.set_cons_zero, List.set_cons_succ]
      refine wpAnyH_ready (rs := [5]) (by kernel_rfl) (by simp) ?_
      refine RdyH.cons rfl (fun K2 hK => ?_) RdyH.nil
      go_simp
      go_at_call 61
      refine (turn_any B bi z _ HBn.out HS0.out.2).mono ?_
      rintro e wd1 ⟨rfl, hwd⟩
      obtain rfl : wd0 = wd1 := hwd.symm
      go_simp
      refine hK _ _ HS0.out ?_
      clear hK K2
      refine wpAnyH_take (i := 6) (v := ?_) rfl (by kernel_rfl) (by kernel_rfl) (by kernel_rfl) (fun _ _ _ h => h) (Or.inl ⟨by rfl, ?_⟩) HS0.out ?_
      rotate_left
      focus (intro w hS; clear hS; first | (go_simp; done) | (go_simp; with_reducible rfl))
      simp only [Act.put, List.getElem_toArray, List.getElem_cons_zero, List.getElem_cons_succ, List.setIfInBounds_toArray, List.set_cons_zero, List.set_cons_succ]
      refine wpAnyH_ready (rs := [7]) (by kernel_rfl) (by simp) ?_
      refine RdyH.cons rfl (fun K2 hK => ?_) RdyH.nil
      have HSn := Lib.hid (show Mx (wd0.setCell ⟨g, k, none⟩ (.int .i64 (tn B z))) bo (.slice (some ⟨g, 0, none⟩) un uk) (.slice va vn vk) ∧ Ix (wd0.setCell ⟨g, k, none⟩ (.int .i64 (tn B z))) bi (B : Nat) from
        ⟨HST.out.2.blk2 HS0.out.1 hgne, HST.out.2.blk2 HS0.out.2 (by have := Hgg.out.1; have := Hb2.out; omega)⟩)
      go_simp
      refine hK _ _ HSn.out ?_
      clear hK K2
      refine wpAnyH_done (by kernel_rfl) ?_ _
      clear hck0 hfz hix
      have HBx := Lib.hid (HW0.out.kp HST.out.2 (by have := Hgg.out.1; have := Hb2.out; have := Hbie.out; omega) (by have := Hgg.out.1; have := Hb2.out; omega) (by have := Hbpe.out; omega))
      go_wp2_with fail
      go_roundw
      case rel => exact ⟨k + 1, by go_num, by omega, HBx.out, HSn.out.1, HST.out.1⟩
      case measure => simp [intOf]; omega
    · obtain rfl : un = k := by omega
      rw [show mix B o.1 un = o.1.map (tn B) from by rw [Hun.out]; exact mix_all _ _] at HS
      have g0 := aCell HM.out 0 rfl
      have g1 := aCell HM.out 1 rfl
      generalize wr = w6 at *
      go_wp2_with fail
      clear g0 g1
      go_loopw [50] (fun vi wr => ∃ i : Nat, vi = .int .i64 i ∧ i ≤ vn ∧ Bn w wr bp bi (.slice ha n0 hc) (.slice ba n1 bc) (B : Nat) ∧ Mx wr bo (.slice ua un uk) (.slice va vn vk) ∧ SQ w2.heap.size wr (.slice ua un uk) (.slice va vn vk) vs (o.1.map (tn B), mixL B o.2 i)) (fun vi _ => vn - (intOf vi).toNat)
      case atStart => exact ⟨0, rfl, Nat.zero_le _, HB.out, HM.out, by rw [mixL_0]; exact HS.out⟩
      case round =>
        clear HB HM HS
        obtain ⟨i, rfl, hi, hb, hm, hs⟩ := hrel
        have HB := Lib.hid hb
        have HM := Lib.hid hm
        have HS := Lib.hid hs
        clear hb hm hs
        by_cases hlt : i < vn
        · have hio : i < o.2.length := by rw [← Hvn.out]; exact hlt
          have hiL : i < (mixL B o.2 i).length := by rw [mixL_len]; exact hio
          obtain ⟨gb, rfl, hc1, hc2⟩ := HS.out.cells hiL
          have hix := fun (w : World) => run_ix (P := Try.prog) (t := 31) (a := some ⟨gb, 0, none⟩) (len := vn) (cap := vk) (b := gb) (off := 0) (s := 2) Try.underlying31 (by intro w; kernel_rfl) (fun _ => rfl) i w hlt
          simp only [Nat.zero_add] at hix
          have hai := HS.out.a i hiL
          have eA : aA (mixL B o.2 i) i = aA o.2 i := congrArg Prod.snd (mixL_at hio)
          have eR : aR (mixL B o.2 i) i = aR o.2 i := congrArg Prod.fst (mixL_at hio)
          have Ho9 := Lib.hid (Ha9.out i hio)
          rw [show aA (o.1.map (tn B), mixL B o.2 i).2 i = aA o.2 i from eA] at hai
          rw [show aR (o.1.map (tn B), mixL B o.2 i).2 i = aR o.2 i from eR] at hc1
          obtain ⟨xa, xc, hvi⟩ := ints_slice hai.ints
          obtain ⟨xn, hxn⟩ : ∃ z, z = (aA o.2 i).length := ⟨_, rfl⟩
          rw [← hxn] at hvi Ho9
          have Hvi := Lib.hid hvi
          have Hxn := Lib.hid hxn
          rw [hvi] at hc2
          obtain ⟨r, hr⟩ : ∃ z, z = aR o.2 i := ⟨_, rfl⟩
          have Hr := Lib.hid hr
          rw [← hr] at hc1
          clear hr hxn hvi hai eA eR
          obtain ⟨wn, hwn⟩ : ∃ z, z = wr.alloc (.cells #[.int .i64 r, .slice xa xn xc] 88) := ⟨_, rfl⟩
          have hb : Below wr.heap.size wr wn := by rw [hwn]; exact below_alloc _ _
          obtain ⟨bx, hbx⟩ : ∃ z, z = wr.heap.size := ⟨_, rfl⟩
          have HA := Lib.hid (show Ax wn bx r (.slice xa xn xc) from by rw [hwn, hbx]; exact heap_alloc_new wr _)
          have HB := Lib.hid (HB.out.keep hb)
          have HM := Lib.hid (HM.out.keep hb)
          have HS := Lib.hid (HS.out.keep hb)
          have Hwn := Lib.hid hwn
          have Hbx := Lib.hid hbx
          clear hb hwn hbx
          go_upto_region 12 with fail
          rw [← Hwn.out, ← Hbx.out]
          clear Hwn Hbx hc1 hc2 hix
          have g0 := aCell HA.out 0 rfl
          have g1 := aCell HA.out 1 rfl
          go_wp2_with fail
          clear g0 g1
          go_loopw [57] (fun vi wr => ∃ k : Nat, vi = .int .i64 k ∧ k ≤ xn ∧ Bn w wr bp bi (.slice ha n0 hc) (.slice ba n1 bc) (B : Nat) ∧ Mx wr bo (.slice ua un uk) (.slice (some ⟨gb, 0, none⟩) vn vk) ∧ Ax wr bx r (.slice xa xn xc) ∧ SQ w2.heap.size wr (.slice ua un uk) (.slice (some ⟨gb, 0, none⟩) vn vk) vs (o.1.map (tn B), (mixL B o.2 i).set i (aR o.2 i, mix B (aA o.2 i) k))) (fun vi _ => xn - (intOf vi).toNat)
          case atStart => exact ⟨0, rfl, Nat.zero_le _, HB.out, HM.out, HA.out, by rw [mix_0, mixL_same hio]; exact HS.out⟩
          case round =>
            clear HB HM HS HA
            obtain ⟨k, rfl, hk, hb, hm, hxx, hs⟩ := hrel
            have HB := Lib.hid hb
            have HM := Lib.hid hm
            have HA := Lib.hid hxx
            have HS := Lib.hid hs
            clear hb hm hs hxx
            by_cases hlk : k < xn
            · have hka : k < (aA o.2 i).length := by rw [← Hxn.out]; exact hlk
              obtain ⟨g, rfl⟩ : ∃ g, xa = some ⟨g, 0, none⟩ := by
                have h := HS.out.a i (by show i < ((mixL B o.2 i).set i _).length; rw [List.length_set, mixL_len]; exact hio)
                rw [Hvi.out] at h
                refine own_some h ?_
                show 0 < (aA ((mixL B o.2 i).set i _) i).length
                unfold aA
                rw [setA_at _ _ _ (by rw [mixL_len]; exact hio), if_pos rfl]
                show 0 < (mix B (aA o.2 i) k).length
                rw [mix_len]; omega
              obtain ⟨t1, t2, t3, t4, t5⟩ := (HS.out.keep (w' := wr.drew) (Below.refl _ _).drew).turn hio hka Hvi.out Hxn.out
              have hck0 := t1
              have hfz := t2
              have Hgg := Lib.hid (own_lt t3 (g := g) rfl)
              have hgne : bo ≠ g := own_ne t3 (show Mx wr.drew bo (.slice ua un uk) (.slice (some ⟨gb, 0, none⟩) vn vk) from HM.out) (by decide) rfl
              have hgnx : bx ≠ g := own_ne t3 (show Ax wr.drew bx r (.slice (some ⟨g, 0, none⟩) xn xc) from HA.out) (by decide) rfl
              have HST := Lib.hid (And.intro t4 t5)
              have hixx := fun (w : World) => run_ix (P := Try.prog) (t := 22) (a := some ⟨g, 0, none⟩) (len := xn) (cap := xc) (b := g) (off := 0) (s := 1) Try.underlying22 (by intro w; kernel_rfl) (fun _ => rfl) k w hlk
              simp only [Nat.mul_one, Nat.zero_add] at hixx
              have hck : wr.cell? ⟨g, k, none⟩ = some (.int .i64 ((aA o.2 i).getD k 0)) := t1
              clear t1 t2 t3 t4 t5
              obtain ⟨z, hz⟩ : ∃ z, z = (aA o.2 i).getD k 0 := ⟨_, rfl⟩
              rw [← hz] at hck hck0 HST
              clear hz
              have HS0 := Lib.hid (show (Mx wr.drew bo (.slice ua un uk) (.slice (some ⟨gb, 0, none⟩) vn vk) ∧ Ix wr.drew bi (B : Nat)) ∧ Ax wr.drew bx r (.slice (some ⟨g, 0, none⟩) xn xc) from ⟨⟨HM.out, HB.out.i⟩, HA.out⟩)
              have HW0 := Lib.hid (show Bn w wr.drew bp bi (.slice ha n0 hc) (.slice ba n1 bc) (B : Nat) from ⟨HB.out.b.drew, HB.out.p, HB.out.i⟩)
              go_upto_region 15 with fail
              try simp only [Act.put]
              refine wp_region_held (S := fun w' => (Mx w' bo (.slice ua un uk) (.slice (some ⟨gb, 0, none⟩) vn vk) ∧ Ix w' bi (B : Nat)) ∧ Ax w' bx r (.slice (some ⟨g, 0, none⟩) xn xc)) wideK ?_
              change wpAnyH _ _ _ _ _ _ _ _ (World.drew _)
              clear hck
              generalize wr.drew = wd0 at *
              refine wpAnyH_take (i := 0) (v := ?_) rfl (by kernel_rfl) (by kernel_rfl) (by kernel_rfl) (fun _ _ _ h => h) (Or.inl ⟨by rfl, ?_⟩) HS0.out ?_
              rotate_left
              focus (intro w hS; clear hS; first | (go_simp; done) | (go_simp; with_reducible rfl))
              simp only [Act.put, List.getElem_toArray, List.getElem_cons_zero, List.setIfInBounds_toArray, List.set_cons_zero, List.set_cons_succ]
              refine wpAnyH_take (i := 1) (v := ?_) rfl (by kernel_rfl) (by kernel_rfl) (by kernel_rfl) (fun _ _ _ h => h) (Or.inl ⟨by rfl, ?_⟩) HS0.out ?_
              rotate_left
              focus (intro w hS; have s0 := aCell hS.2 0 rfl; have s1 := aCell hS.2 1 rfl; clear hS; first | (go_simp; done) | (go_simp; with_reducible rfl))
              simp only [Act.put, List.getElem_toArray, List.getElem_cons_zero, List.getElem_cons_succ, List.setIfInBounds_toArray, List.set_cons_zero, List.set_cons_succ]
              refine wpAnyH_take (i := 2) (v := ?_) rfl (by kernel_rfl) (by kernel_rfl) (by kernel_rfl) (fun _ _ _ h => h) (Or.inl ⟨by rfl, ?_⟩) HS0.out ?_
              rotate_left
              focus (intro w hS; clear hS; first | (go_simp; done) | (go_simp; with_reducible rfl))
              simp only [Act.put, List.getElem_toArray, List.getElem_cons_zero, List.getElem_cons_succ, List.setIfInBounds_toArray, List.set_cons_zero, List.set_cons_succ]
              refine wpAnyH_take (i := 3) (v := ?_) rfl (by kernel_rfl) (by kernel_rfl) (by kernel_rfl) (fun _ _ _ h => h) (Or.inl ⟨by rfl, ?_⟩) HS0.out ?_
              rotate_left
              focus (intro w hS; clear hS; first | (go_simp; done) | (go_simp; with_reducible rfl))
              simp only [Act.put, List.getElem_toArray, List.getElem_cons_zero, List.getElem_cons_succ, List.setIfInBounds_toArray, List.set_cons_zero, List.set_cons_succ]
              refine wpAnyH_take (i := 4) (v := ?_) rfl (by kernel_rfl) (by kernel_rfl) (by kernel_rfl) (fun _ _ _ h => h) (Or.inl ⟨by rfl, ?_⟩) HS0.out ?_
              rotate_left
              focus (intro w hS; clear hS; first | (go_simp; done) | (go_simp; with_reducible rfl))
              simp only [Act.put, List.getElem_toArray, List.getElem_cons_zero, List.getElem_cons_succ, List.setIfInBounds_toArray, List.set_cons_zero, List.set_cons_succ]
              refine wpAnyH_ready (rs := [5]) (by kernel_rfl) (by simp) ?_
              refine RdyH.cons rfl (fun K2 hK => ?_) RdyH.nil
              go_simp
              go_at_call 61
              refine (turn_any B bi z _ HBn.out HS0.out.1.2).mono ?_
              rintro e wd1 ⟨rfl, hwd⟩
              obtain rfl : wd0 = wd1 := hwd.symm
              go_simp
              refine hK _ _ HS0.out ?_
              clear hK K2
              refine wpAnyH_take (i := 6) (v := ?_) rfl (by kernel_rfl) (by kernel_rfl) (by kernel_rfl) (fun _ _ _ h => h) (Or.inl ⟨by rfl, ?_⟩) HS0.out ?_
              rotate_left
              focus (intro w hS; clear hS; first | (go_simp; done) | (go_simp; with_reducible rfl))
              simp only [Act.put, List.getElem_toArray, List.getElem_cons_zero, List.getElem_cons_succ, List.setIfInBounds_toArray, List.set_cons_zero, List.set_cons_succ]
              refine wpAnyH_ready (rs := [7]) (by kernel_rfl) (by simp) ?_
              refine RdyH.cons rfl (fun K2 hK => ?_) RdyH.nil
              have HSn := Lib.hid (show (Mx (wd0.setCell ⟨g, k, none⟩ (.int .i64 (tn B z))) bo (.slice ua un uk) (.slice (some ⟨gb, 0, none⟩) vn vk) ∧ Ix (wd0.setCell ⟨g, k, none⟩ (.int .i64 (tn B z))) bi (B : Nat)) ∧ Ax (wd0.setCell ⟨g, k, none⟩ (.int .i64 (tn B z))) bx r (.slice (some ⟨g, 0, none⟩) xn xc) from
                ⟨⟨HST.out.2.blk2 HS0.out.1.1 hgne, HST.out.2.blk2 HS0.out.1.2 (by have := Hgg.out.1; have := Hb2.out; omega)⟩, HST.out.2.blk2 HS0.out.2 hgnx⟩)
              go_simp
              refine hK _ _ HSn.out ?_
              clear hK K2
              refine wpAnyH_done (by kernel_rfl) ?_ _
              clear hck0 hfz hixx
              have hx9 := Ho9.out
              have HBx := Lib.hid (HW0.out.kp HST.out.2 (by have := Hgg.out.1; have := Hb2.out; have := Hbie.out; omega) (by have := Hgg.out.1; have := Hb2.out; omega) (by have := Hbpe.out; omega))
              go_wp2_with fail
              go_roundw
              case rel => exact ⟨k + 1, by go_num, by omega, HBx.out, HSn.out.1.1, HSn.out.2, HST.out.1⟩
              case measure => simp [intOf]; omega
            · obtain rfl : xn = k := by omega
              have HSm := Lib.hid (show SQ w2.heap.size wr (.slice ua un uk) (.slice (some ⟨gb, 0, none⟩) vn vk) vs (o.1.map (tn B), mixL B o.2 (i + 1)) from by
                have h := HS.out
                rw [Hxn.out, mix_all, mixL_set hio] at h
                exact h)
              go_wp2_with fail
              go_roundw
              case rel => exact ⟨i + 1, by go_num, by omega, HB.out, HM.out, HSm.out⟩
              case measure => simp [intOf]; omega
        · obtain rfl : vn = i := by omega
          have HS := Lib.hid (show SQ w2.heap.size wr (.slice ua un uk) (.slice va vn vk) vs (nQ B o) from by
            have h := HS.out
            rw [show mixL B o.2 vn = o.2.map (mA B) from by rw [Hvn.out, mixL_all]] at h
            exact h)
          generalize wr = w7 at *
          have g0 := aCell HB.out.p 0 rfl; have g1 := aCell HB.out.p 1 rfl
          go_wp2_with fail
          refine (ofC_any _ _ (Hq.out.keep HB.out.b)).mono ?_
          rintro e w8 ⟨a1, e1, k1, a2, e2, k2, rfl, ho, hb⟩
          have HB := Lib.hid (HB.out.keep hb)
          have HM := Lib.hid (HM.out.keep hb)
          have HS := Lib.hid (HS.out.keep hb)
          have HQ := Lib.hid (show Qr w8 (.agg #[.slice a1 e1 k1, .slice a2 e2 k2]) o from by rw [Ho.out]; exact ho.qr)
          clear hb ho g0 g1
          go_wp2_with fail
          refine (facC_any _ _ (Hl.out.keep HB.out.b)).mono ?_
          rintro e w9 ⟨f1, f2, f3, rfl, ho, hb⟩
          have HB := Lib.hid (HB.out.keep hb)
          have HM := Lib.hid (HM.out.keep hb)
          have HS := Lib.hid (HS.out.keep hb)
          have HQ := Lib.hid (HQ.out.keep hb)
          have HF := Lib.hid ho.atoms
          clear hb ho
          have HG := Lib.hid (show ∀ g, (Value.slice va vn vk).ownBlock = some g → g < w9.heap.size from fun g hg => (own_lt HS.out.b hg).2)
          go_wp2_with fail
          refine (resC_any _ _ _ HQ.out HF.out).mono ?_
          rintro e w10 ⟨ra1, rn1, rk1, c1, rfl, hR, hb⟩
          have HB := Lib.hid (HB.out.keep hb)
          have HM := Lib.hid (HM.out.keep hb)
          have HS := Lib.hid (HS.out.keep hb)
          have HQ := Lib.hid (HQ.out.keep hb)
          have HF := Lib.hid (HF.out.keep hb)
          have HR1 := Lib.hid hR
          clear hb hR HQ HF
          go_upto_region 19 with fail
          try simp only [Act.put]
          go_cut [17, 18] (fun o17 o18 wc => ∃ ra2 rn2 rk2 c2 z, (o17 = .slice ra2 rn2 rk2 ∧ o18 = .int .i64 c2) ∧ ResC (nQ B o) (ofF l) z wc (.slice ra2 rn2 rk2) c2 ∧ Below w10.heap.size w10 wc)
          case first =>
            have HS0 := Lib.hid (show Mx w10.drew bo (.slice ua un uk) (.slice va vn vk) from HM.out)
            have Hw0 := Lib.hid (show Below w.heap.size w w10.drew from HB.out.b.drew)
            have HW0 := Lib.hid (show Below w10.heap.size w10 w10.drew from (Below.refl _ _).drew)
            refine wp_region_held (S := fun w' => Mx w' bo (.slice ua un uk) (.slice va vn vk)) wideK ?_
            change wpAnyH _ _ _ _ _ _ _ _ (World.drew _)
            generalize w10.drew = wd0 at *
            refine wpAnyH_take (i := 0) (v := ?_) rfl (by kernel_rfl) (by kernel_rfl) (by kernel_rfl) (fun _ _ _ h => h) (Or.inl ⟨by rfl, ?_⟩) HS0.out ?_
            rotate_left
            focus (intro w hS; have s0 := aCell hS 0 rfl; have s1 := aCell hS 1 rfl; clear hS; first | (go_simp; done) | (go_simp; with_reducible rfl))
            simp only [Act.put, List.getElem_toArray, List.getElem_cons_zero, List.setIfInBounds_toArray, List.set_cons_zero, List.set_cons_succ]
            refine wpAnyH_take (i := 1) (v := ?_) rfl (by kernel_rfl) (by kernel_rfl) (by kernel_rfl) (fun _ _ _ h => h) (Or.inl ⟨by rfl, ?_⟩) HS0.out ?_
            rotate_left
            focus (intro w hS; clear hS; first | (go_simp; done) | (go_simp; with_reducible rfl))
            simp only [Act.put, List.getElem_toArray, List.getElem_cons_zero, List.getElem_cons_succ, List.setIfInBounds_toArray, List.set_cons_zero, List.set_cons_succ]
            refine wpAnyH_ready (rs := [2]) (by kernel_rfl) (by simp) ?_
            refine RdyH.cons rfl (fun K2 hK => ?_) RdyH.nil
            go_simp
            go_at_call 21
            refine (facC_any _ _ (Hl.out.keep Hw0.out)).mono ?_
            rintro e wd1 ⟨f1, f2, f3, rfl, ho, hb⟩
            have HF := Lib.hid ho.atoms
            have HS1 := Lib.hid (Mx.keep HS0.out hb)
            have HW1 := Lib.hid (Below.tr HW0.out hb)
            clear ho hb
            go_simp
            refine hK _ _ HS1.out ?_
            clear hK K2
            refine wpAnyH_ready (rs := [3]) (by kernel_rfl) (by simp) ?_
            refine RdyH.cons rfl (fun K2 hK => ?_) RdyH.nil
            go_simp
            go_at_call 19
            refine (resC_any (q := nQ B o) _ _ _ (HS.out.qr.keep HW1.out) HF.out).mono ?_
            rintro e wd2 ⟨ra2, rn2, rk2, c2, rfl, hP, hb⟩
            have HP := Lib.hid hP
            have HS2 := Lib.hid (Mx.keep HS1.out hb)
            have HW2 := Lib.hid (Below.tr HW1.out hb)
            clear hP hb
            go_simp
            refine hK _ _ HS2.out ?_
            clear hK K2
            refine wpAnyH_take (i := 4) (v := ?_) rfl (by kernel_rfl) (by kernel_rfl) (by kernel_rfl) (fun _ _ _ h => h) (Or.inl ⟨by rfl, ?_⟩) HS2.out ?_
            rotate_left
            focus (intro w hS; clear hS; first | (go_simp; done) | (go_simp; with_reducible rfl))
            simp only [Act.put, List.getElem_toArray, List.getElem_cons_zero, List.getElem_cons_succ, List.setIfInBounds_toArray, List.set_cons_zero, List.set_cons_succ]
            refine wpAnyH_take (i := 5) (v := ?_) rfl (by kernel_rfl) (by kernel_rfl) (by kernel_rfl) (fun _ _ _ h => h) (Or.inl ⟨by rfl, ?_⟩) HS2.out ?_
            rotate_left
            focus (intro w hS; clear hS; first | (go_simp; done) | (go_simp; with_reducible rfl))
            simp only [Act.put, List.getElem_toArray, List.getElem_cons_zero, List.getElem_cons_succ, List.setIfInBounds_toArray, List.set_cons_zero, List.set_cons_succ]
            refine wpAnyH_take (i := 6) (v := ?_) rfl (by kernel_rfl) (by kernel_rfl) (by kernel_rfl) (fun _ _ _ h => h) (Or.inl ⟨by rfl, ?_⟩) HS2.out ?_
            rotate_left
            focus (intro w hS; clear hS; first | (go_simp; done) | (go_simp; with_reducible rfl))
            simp only [Act.put, List.getElem_toArray, List.getElem_cons_zero, List.getElem_cons_succ, List.setIfInBounds_toArray, List.set_cons_zero, List.set_cons_succ]
            refine wpAnyH_take (i := 7) (v := ?_) rfl (by kernel_rfl) (by kernel_rfl) (by kernel_rfl) (fun _ _ _ h => h) (Or.inl ⟨by rfl, ?_⟩) HS2.out ?_
            rotate_left
            focus (intro w hS; clear hS; first | (go_simp; done) | (go_simp; with_reducible rfl))
            simp only [Act.put, List.getElem_toArray, List.getElem_cons_zero, List.getElem_cons_succ, List.setIfInBounds_toArray, List.set_cons_zero, List.set_cons_succ]
            refine wpAnyH_take (i := 8) (v := ?_) rfl (by kernel_rfl) (by kernel_rfl) (by kernel_rfl) (fun _ _ _ h => h) (Or.inl ⟨by rfl, ?_⟩) HS2.out ?_
            rotate_left
            focus (intro w hS; clear hS; first | (go_simp; done) | (go_simp; with_reducible rfl))
            simp only [Act.put, List.getElem_toArray, List.getElem_cons_zero, List.getElem_cons_succ, List.setIfInBounds_toArray, List.set_cons_zero, List.set_cons_succ]
            refine wpAnyH_done (by kernel_rfl) ?_ _
            go_wp2_with fail
            go_meet
            exact ⟨ra2, rn2, rk2, c2, _, ⟨rfl, rfl⟩, HP.out, HW2.out⟩
          case rest =>
            obtain ⟨ra2, rn2, rk2, c2, z, ⟨rfl, rfl⟩, hP, hb⟩ := hcut
            generalize wc = w11 at *
            have HB := Lib.hid (HB.out.keep hb)
            have HM := Lib.hid (HM.out.keep hb)
            have HS := Lib.hid (HS.out.keep hb)
            have HR1 := Lib.hid (HR1.out.keep hb)
            have HP := Lib.hid hP
            clear hP hb
            obtain ⟨rfl, R, r1, r2⟩ := resC_ren HBn.out HR1.out HP.out
            have HRa := Lib.hid r1
            have HRb := Lib.hid r2
            clear r1 r2 HP
            have g0 := aCell HB.out.p 0 rfl; have g1 := aCell HB.out.p 1 rfl
            go_wp2_with fail
            refine (ofC_any _ _ (Hq.out.keep HB.out.b)).mono ?_
            rintro e w12 ⟨a1, e1, k1, a2, e2, k2, rfl, ho, hb⟩
            have HB := Lib.hid (HB.out.keep hb)
            have HM := Lib.hid (HM.out.keep hb)
            have HS := Lib.hid (HS.out.keep hb)
            have HR1 := Lib.hid (HR1.out.keep hb)
            have HRa := Lib.hid (HRa.out.keep hb)
            have HRb := Lib.hid (HRb.out.keep hb)
            have HQ := Lib.hid (show Qr w12 (.agg #[.slice a1 e1 k1, .slice a2 e2 k2]) o from by rw [Ho.out]; exact ho.qr)
            clear hb ho g0 g1
            go_wp2_with fail
            refine (rest_any _ _ HQ.out).mono ?_
            rintro e w13 ⟨n, c3, rfl, hR, hb⟩
            have HB := Lib.hid (HB.out.keep hb)
            have HM := Lib.hid (HM.out.keep hb)
            have HS := Lib.hid (HS.out.keep hb)
            have HR1 := Lib.hid (HR1.out.keep hb)
            have HRa := Lib.hid (HRa.out.keep hb)
            have HRb := Lib.hid (HRb.out.keep hb)
            have HQ := Lib.hid (HQ.out.keep hb)
            have HRr := Lib.hid hR
            clear hb hR HQ
            have g0 := aCell HM.out 0 rfl; have g1 := aCell HM.out 1 rfl
            go_wp2_with fail
            refine (rest_any (q := nQ B o) _ _ HS.out.qr).mono ?_
            rintro e w14 ⟨m, c4, rfl, hR, hb⟩
            have HB := Lib.hid (HB.out.keep hb)
            have HM := Lib.hid (HM.out.keep hb)
            have HS := Lib.hid (HS.out.keep hb)
            have HR1 := Lib.hid (HR1.out.keep hb)
            have HRa := Lib.hid (HRa.out.keep hb)
            have HRb := Lib.hid (HRb.out.keep hb)
            obtain ⟨rfl, rfl⟩ := restC_ren HBn.out HRr.out hR
            have HRs := Lib.hid hR
            clear hb hR g0 g1 HRr
            have q1 : (c1 != c1) = false := by simp
            have q2 : (n != n) = false := by simp
            have q3 : (c3 != c3) = false := by simp
            have HRw := Lib.hid (rows_any R R _ _ w14 HRa.out HRb.out)
            clear HRa HRb
            go_wp2_with fail
            refine HRw.out.mono ?_
            intro e w15 hh
            obtain ⟨rfl, hb⟩ : e = .returned (.bool true) ∧ Below w14.heap.size w14 w15 := by
              obtain ⟨h1, n, h2⟩ := hh
              exact ⟨by rw [h1]; simp, by rw [h2]; exact ⟨rfl, rfl, rfl, Nat.le_refl _, fun _ _ => rfl⟩⟩
            have HB := Lib.hid (HB.out.keep hb)
            have HM := Lib.hid (HM.out.keep hb)
            have HS := Lib.hid (HS.out.keep hb)
            have HR1 := Lib.hid (HR1.out.keep hb)
            clear hb hh HRw
            have g0 := aCell HM.out 0 rfl; have g1 := aCell HM.out 1 rfl
            go_wp2_with fail
            have hbs : w2.heap.size ≤ w15.heap.size := Nat.le_trans (Nat.le_of_lt (Nat.lt_of_le_of_lt (Hbz.out) (Array.getElem?_eq_some_iff.1 HM.out).1)) (Nat.le_refl _)
            refine (revB_any _ _ _ w15 HS.out.own hbs).mono ?_
            rintro e w16 ⟨rfl, hM, hg⟩
            have hb : Below w2.heap.size w15 w16 := grown_below HS.out.b hg hbs
            have HQv := Lib.hid (show Qr w16 (.agg #[.slice ua un uk, .slice va vn vk]) (vQ (nQ B o)) from ⟨_, _, rfl, OwnInts.ints (ints_grown atomNotInt HS.out.h HS.out.b hg), hM.atoms⟩)
            have HM := Lib.hid (show Mx w16 bo (.slice ua un uk) (.slice va vn vk) from block_grown HS.out.b hg HM.out (by decide))
            have HR1 := Lib.hid (resC_to HBn.out (resC_grown HR1.out hg HG.out))
            have HB := Lib.hid (HB.out.grown hb (by have := Hb2.out; have := Hbie.out; omega) Hb2.out (by have := Hbpe.out; omega))
            clear hb hM hg HS g0 g1 hbs HG q1 q2
            go_upto_region 25 with fail
            try simp only [Act.put]
            go_cut [18, 23] (fun o18 o23 wc => ∃ ra3 rn3 rk3 c5 z, (o23 = .slice ra3 rn3 rk3 ∧ o18 = .int .i64 c5) ∧ ResC (vQ (nQ B o)) (ofF l) z wc (.slice ra3 rn3 rk3) c5 ∧ Below w16.heap.size w16 wc)
            case first =>
              have HS0 := Lib.hid (show Mx w16.drew bo (.slice ua un uk) (.slice va vn vk) from HM.out)
              have Hw0 := Lib.hid (show Below w.heap.size w w16.drew from HB.out.b.drew)
              have HW0 := Lib.hid (show Below w16.heap.size w16 w16.drew from (Below.refl _ _).drew)
              refine wp_region_held (S := fun w' => Mx w' bo (.slice ua un uk) (.slice va vn vk)) wideK ?_
              change wpAnyH _ _ _ _ _ _ _ _ (World.drew _)
              generalize w16.drew = wd0 at *
              refine wpAnyH_take (i := 0) (v := ?_) rfl (by kernel_rfl) (by kernel_rfl) (by kernel_rfl) (fun _ _ _ h => h) (Or.inl ⟨by rfl, ?_⟩) HS0.out ?_
              rotate_left
              focus (intro w hS; have s0 := aCell hS 0 rfl; have s1 := aCell hS 1 rfl; clear hS; first | (go_simp; done) | (go_simp; with_reducible rfl))
              simp only [Act.put, List.getElem_toArray, List.getElem_cons_zero, List.setIfInBounds_toArray, List.set_cons_zero, List.set_cons_succ]
              refine wpAnyH_take (i := 1) (v := ?_) rfl (by kernel_rfl) (by kernel_rfl) (by kernel_rfl) (fun _ _ _ h => h) (Or.inl ⟨by rfl, ?_⟩) HS0.out ?_
              rotate_left
              focus (intro w hS; clear hS; first | (go_simp; done) | (go_simp; with_reducible rfl))
              simp only [Act.put, List.getElem_toArray, List.getElem_cons_zero, List.getElem_cons_succ, List.setIfInBounds_toArray, List.set_cons_zero, List.set_cons_succ]
              refine wpAnyH_ready (rs := [2]) (by kernel_rfl) (by simp) ?_
              refine RdyH.cons rfl (fun K2 hK => ?_) RdyH.nil
              go_simp
              go_at_call 21
              refine (facC_any _ _ (Hl.out.keep Hw0.out)).mono ?_
              rintro e wd1 ⟨f1, f2, f3, rfl, ho, hb⟩
              have HF := Lib.hid ho.atoms
              have HS1 := Lib.hid (Mx.keep HS0.out hb)
              have HW1 := Lib.hid (Below.tr HW0.out hb)
              clear ho hb
              go_simp
              refine hK _ _ HS1.out ?_
              clear hK K2
              refine wpAnyH_ready (rs := [3]) (by kernel_rfl) (by simp) ?_
              refine RdyH.cons rfl (fun K2 hK => ?_) RdyH.nil
              go_simp
              go_at_call 19
              refine (resC_any (q := vQ (nQ B o)) _ _ _ (HQv.out.keep HW1.out) HF.out).mono ?_
              rintro e wd2 ⟨ra3, rn3, rk3, c5, rfl, hP, hb⟩
              have HP := Lib.hid hP
              have HS2 := Lib.hid (Mx.keep HS1.out hb)
              have HW2 := Lib.hid (Below.tr HW1.out hb)
              clear hP hb
              go_simp
              refine hK _ _ HS2.out ?_
              clear hK K2
              refine wpAnyH_take (i := 4) (v := ?_) rfl (by kernel_rfl) (by kernel_rfl) (by kernel_rfl) (fun _ _ _ h => h) (Or.inl ⟨by rfl, ?_⟩) HS2.out ?_
              rotate_left
              focus (intro w hS; clear hS; first | (go_simp; done) | (go_simp; with_reducible rfl))
              simp only [Act.put, List.getElem_toArray, List.getElem_cons_zero, List.getElem_cons_succ, List.setIfInBounds_toArray, List.set_cons_zero, List.set_cons_succ]
              refine wpAnyH_take (i := 5) (v := ?_) rfl (by kernel_rfl) (by kernel_rfl) (by kernel_rfl) (fun _ _ _ h => h) (Or.inl ⟨by rfl, ?_⟩) HS2.out ?_
              rotate_left
              focus (intro w hS; clear hS; first | (go_simp; done) | (go_simp; with_reducible rfl))
              simp only [Act.put, List.getElem_toArray, List.getElem_cons_zero, List.getElem_cons_succ, List.setIfInBounds_toArray, List.set_cons_zero, List.set_cons_succ]
              refine wpAnyH_take (i := 6) (v := ?_) rfl (by kernel_rfl) (by kernel_rfl) (by kernel_rfl) (fun _ _ _ h => h) (Or.inl ⟨by rfl, ?_⟩) HS2.out ?_
              rotate_left
              focus (intro w hS; clear hS; first | (go_simp; done) | (go_simp; with_reducible rfl))
              simp only [Act.put, List.getElem_toArray, List.getElem_cons_zero, List.getElem_cons_succ, List.setIfInBounds_toArray, List.set_cons_zero, List.set_cons_succ]
              refine wpAnyH_take (i := 7) (v := ?_) rfl (by kernel_rfl) (by kernel_rfl) (by kernel_rfl) (fun _ _ _ h => h) (Or.inl ⟨by rfl, ?_⟩) HS2.out ?_
              rotate_left
              focus (intro w hS; clear hS; first | (go_simp; done) | (go_simp; with_reducible rfl))
              simp only [Act.put, List.getElem_toArray, List.getElem_cons_zero, List.getElem_cons_succ, List.setIfInBounds_toArray, List.set_cons_zero, List.set_cons_succ]
              refine wpAnyH_take (i := 8) (v := ?_) rfl (by kernel_rfl) (by kernel_rfl) (by kernel_rfl) (fun _ _ _ h => h) (Or.inl ⟨by rfl, ?_⟩) HS2.out ?_
              rotate_left
              focus (intro w hS; clear hS; first | (go_simp; done) | (go_simp; with_reducible rfl))
              simp only [Act.put, List.getElem_toArray, List.getElem_cons_zero, List.getElem_cons_succ, List.setIfInBounds_toArray, List.set_cons_zero, List.set_cons_succ]
              refine wpAnyH_done (by kernel_rfl) ?_ _
              go_wp2_with fail
              go_meet
              exact ⟨ra3, rn3, rk3, c5, _, ⟨rfl, rfl⟩, HP.out, HW2.out⟩
            case rest =>
              obtain ⟨ra3, rn3, rk3, c5, z, ⟨rfl, rfl⟩, hP, hb⟩ := hcut
              generalize wc = w17 at *
              have HB := Lib.hid (HB.out.keep hb)
              have HM := Lib.hid (HM.out.keep hb)
              have HQv := Lib.hid (HQv.out.keep hb)
              have HR1 := Lib.hid (HR1.out.keep hb)
              have HP := Lib.hid hP
              clear hP hb
              have g0 := aCell HM.out 0 rfl; have g1 := aCell HM.out 1 rfl
              go_wp2_with fail
              refine (rest_any (q := vQ (nQ B o)) _ _ HQv.out).mono ?_
              rintro e w18 ⟨m2, c6, rfl, hR, hb⟩
              have HB := Lib.hid (HB.out.keep hb)
              have HM := Lib.hid (HM.out.keep hb)
              have HQv := Lib.hid (HQv.out.keep hb)
              have HR1 := Lib.hid (HR1.out.keep hb)
              have HP := Lib.hid (HP.out.keep hb)
              obtain ⟨hnm, rfl⟩ := restC_rev HRs.out hR
              clear hb hR g0 g1 HRs HQv
              have q4 : (c3 == c3) = true := by simp
              have q5 : ((n == 0) == (m2 == 0)) = true := by
                by_cases h : n = 0
                · rw [h, hnm.1 h]; rfl
                · have h2 : ¬ m2 = 0 := fun k => h (hnm.2 k)
                  rw [beq_eq_false_iff_ne.2 h, beq_eq_false_iff_ne.2 h2]; rfl
              clear hnm
              have HT := Lib.hid (resC_rev HR1.out HP.out)
              clear HR1 HP
              by_cases k1 : c1 = 3
              · have k2 : (c1 == 3) = true := by rw [k1]; rfl
                clear HT
                go_wp2_with fail
                refine (awake_any _).mono ?_
                rintro e w19 ⟨rfl, hb⟩
                have HB := Lib.hid (HB.out.keep hb)
                clear hb 
                go_wp2_with fail
                go_ret
                exact ⟨rfl, HB.out.b⟩
              · have k2 : (c1 == 3) = false := beq_eq_false_iff_ne.2 k1
                by_cases k3 : c5 = 3
                · have k4 : (c5 == 3) = true := by rw [k3]; rfl
                  clear HT
                  go_wp2_with fail
                  refine (awake_any _).mono ?_
                  rintro e w19 ⟨rfl, hb⟩
                  have HB := Lib.hid (HB.out.keep hb)
                  clear hb 
                  go_wp2_with fail
                  go_ret
                  exact ⟨rfl, HB.out.b⟩
                · have k4 : (c5 == 3) = false := beq_eq_false_iff_ne.2 k3
                  rcases HT.out with h | h | ⟨rfl, R3, r1, r2⟩
                  · exact absurd h k1
                  · exact absurd h k3
                  · have k5 : (c1 == c1) = true := by simp
                    have HRw := Lib.hid (rows_any R3 R3 _ _ w18 r1 r2)
                    clear HT r1 r2
                    go_wp2_with fail
                    refine HRw.out.mono ?_
                    intro e w19 hh
                    obtain ⟨rfl, hb⟩ : e = .returned (.bool true) ∧ Below w18.heap.size w18 w19 := by
                      obtain ⟨h1, n, h2⟩ := hh
                      exact ⟨by rw [h1]; simp, by rw [h2]; exact ⟨rfl, rfl, rfl, Nat.le_refl _, fun _ _ => rfl⟩⟩
                    have HB := Lib.hid (HB.out.keep hb)
                    clear hb hh HRw
                    go_wp2_with fail
                    refine (awake_any _).mono ?_
                    rintro e w20 ⟨rfl, hb⟩
                    have HB := Lib.hid (HB.out.keep hb)
                    clear hb 
                    go_wp2_with fail
                    go_ret
                    exact ⟨rfl, HB.out.b⟩
#print axioms names_any
namespace matchNames
open Go.ChangeShapes Go.WideShapes Go.ChangeAt
set_option maxRecDepth 100000 in
theorem lifted (os : Os) (started : os.Started) (H : Type) (enc : TypeId × Value → H) :
    ReturnsInHanded {} Try.checked os 17 .any (Rows.matchNamesSpec.pre6 enc Try.prog Try.f17 Rows.matchNamesRow.domain false) (Rows.matchNamesSpec.post enc Try.prog Try.f17 false true false false) := by
  refine returnsInHanded_of_change (C := Try.checked) Try.own started (by kernel_rfl) Try.func17
    (ChangeSpec.witness6 (enc := enc) (C := Try.checked) false ⟨#[], #[.agg #[.slice none 0 0, .slice none 0 0], .slice none 0 0, .int .i64 0], []⟩ 8 (by kernel_rfl) (by kernel_rfl) (by kernel_rfl) (by kernel_rfl)) ?_
  intro W base args ds gs before hval0 hW _ _
  have hval : ∀ (j : Nat) t v, Try.f17.params[j]? = some t → args[j]? = some v → Value.okWide Try.prog W .any base t v := hval0
  clear hval0
  obtain rfl : gs = [] := by obtain ⟨p, q, _, hV, _⟩ := hW; exact (trodVars_none hV).1
  have hW' := hW
  obtain ⟨p, q, hA0, hV, rfl, hfz, hnd⟩ := hW
  have hA : DataW.TrodAll enc Try.prog W 0 (fun _ => true) true Try.f17.params.toList args.toList ds p := hA0
  rw [Try.params17] at hA hval
  obtain ⟨v0, vs0, d0, ds0, p0, q0, hv0, hd0, hp0, h0, r0⟩ := trodAll_cons hA
  obtain ⟨v1, vs1, d1, ds1, p1, q1, hv1, hd1, hp1, h1, r1⟩ := trodAll_cons r0
  obtain ⟨v2, vs2, d2, ds2, p2, q2, hv2, hd2, hp2, h2, r2⟩ := trodAll_cons r1
  obtain ⟨hvn, hdn, hpn⟩ := trodAll_nil r2
  have ha : args = #[v0, v1, v2] := by cases args; simp_all
  have hdd : ds = [d0, d1, d2] := by simp_all
  rw [ha] at hval
  obtain ⟨a0, k0⟩ := qry_arg Try.underlying25 ⟨rfl, rfl⟩ ⟨rfl, rfl⟩ Try.underlying23 Try.underlying80 ⟨rfl, rfl⟩ ⟨rfl, rfl⟩ Try.underlying3 Try.underlying22 cellsI (by kernel_rfl) (by kernel_rfl) (by kernel_rfl) (by kernel_rfl) (hval 0 25 v0 rfl rfl) h0
  obtain ⟨a1, k1⟩ := atoms_of_trod Try.underlying26 Try.underlying77 ⟨rfl, rfl⟩ ⟨rfl, rfl⟩ Try.underlying3 Try.underlying22 cellsI (by kernel_rfl) (by kernel_rfl) (okWide_slice Try.underlying26 (hval 1 26 v1 rfl rfl)) h1
  obtain ⟨a2, e2, -, -, wf2⟩ := open_int Try.underlying3 (hval 2 3 v2 rfl rfl) h2
  have hw : Calls Try.prog 17 args W (fun e W' => e = .returned (.bool true) ∧ Below W.heap.size W W') := by
    rw [ha, e2]; exact names_any a0 a1 a2 v0 v1 W k0 k1
  exact hw.mono fun e W' ⟨he, hb⟩ => ⟨_, he, law_post Try.laidOut hW' rfl rfl Try.underlying4 (by rw [hdd]; rfl)
    (by kernel_rfl) hb⟩

theorem holds : Rows.MatchNamesSaid :=
  OpenClaim.holds_of_wide 17 Try.f17 rfl rfl rfl rfl rfl rfl rfl ⟨rfl, rfl, rfl, rfl, rfl⟩ rfl rfl rfl rfl rfl (by kernel_rfl) Try.func17 (by kernel_rfl)
    (of_decide_eq_true (by kernel_rfl)) (by unfold Func.isWrapper; first | (rw [if_pos (by decide +kernel)]; kernel_rfl) | (rw [if_neg (by decide +kernel)]; exact ⟨rfl, rfl⟩))
    (fun os started H enc _ => lifted os started H enc)
end matchNames
end Go.Proofs.Ytfplmdieeabgpaa

/- HistoryParts: for every input the law returns true. -/
import Derived.Test.YtpehbffkplmfjaaPtm
import Derived.Test.YtpehbffkplmfjaaCto
import Derived.Test.YtpehbffkplmfjaaSnB
import Derived.Test.YtpehbffkplmfjaaSqe
import Derived.Test.YtpehbffkplmfjaaAw
import Derived.Test.YtpehbffkplmfjaaEq
import Derived.Test.YtpehbffkplmfjaaFrame
import Derived.Test.YtpehbffkplmfjaaRows
namespace Go.Proofs.Ytpehbffkplmfjaa
open Go.RowKit

theorem valid_take (l : List HOp) : ValidH (l.take 43) ↔ ValidH l := by
  by_cases h : l.length ≤ 43
  · rw [List.take_of_length_le h]
  · constructor
    · intro hv; have := hv.1; rw [List.length_take] at this; omega
    · intro hv; have := hv.1; omega
/-- the operations of m whose transaction commits in it, of the first k -/
def prtTo (m : List HOp) (k : Nat) : List HOp := (m.take k).filter fun d => decide ((d.1, 2, 0) ∈ m)
theorem prtTo_step {m : List HOp} {k : Nat} (hk : k < m.length) : prtTo m (k + 1) = if (oT m k, 2, 0) ∈ m then prtTo m k ++ [(oT m k, oK m k, oI m k)] else prtTo m k := by
  unfold prtTo
  rw [List.take_succ_eq_append_getElem hk, List.filter_append, op_get hk]
  by_cases e : (oT m k, (2 : Int), (0 : Int)) ∈ m
  · rw [if_pos e]; simp [e]
  · rw [if_neg e]; simp [e]
theorem prtTo_le (m : List HOp) (k : Nat) : (prtTo m k).length ≤ m.length := by
  have h1 := List.length_filter_le (fun d : HOp => decide ((d.1, (2 : Int), (0 : Int)) ∈ m)) (m.take k)
  have h2 : (m.take k).length ≤ m.length := List.length_take_le' _ _
  unfold prtTo
  omega
theorem infoOpP : (Try.prog.info? 58).map (fun i => (i.zero, i.size, i.bytes)) = some (some (.agg #[.int .i64 0, .int .i64 0, .int .i64 0]), 3, 24) := by kernel_rfl
theorem elemOpsP : Elem Try.prog 29 58 3 24 := elem_of Try.underlying29 infoOpP rfl (by omega) (by omega)
/-- a function of a history that returns a slice of ints and an error -/
def ResI (n : FuncId) (m : List HOp) (x : List Int) (E : Int) : Prop := ∀ v w, Ops w v m → Calls Try.prog n #[v] w fun e w' => ∃ v', e = .returned (.tuple #[v', .int .i64 E]) ∧ Ints w' v' x ∧ Below w.heap.size w w'
def ResO (n : FuncId) (m x : List HOp) (E : Int) : Prop := ∀ v w, Ops w v m → Calls Try.prog n #[v] w fun e w' => ∃ v', e = .returned (.tuple #[v', .int .i64 E]) ∧ Ops w' v' x ∧ Below w.heap.size w w'
/-- all five results -/
structure Five (m : List HOp) (x1 x2 x3 x4 : List Int) (x5 : List HOp) (E1 E2 E3 E4 E5 : Int) : Prop where
  o : ResI 24 m x1 E1
  c : ResI 25 m x2 E2
  v : ResI 28 m x3 E3
  s : ResI 33 m x4 E4
  d : ResO 34 m x5 E5
theorem five_bad {m : List HOp} (hn : ¬ ValidH m) : Five m [] [] [] [] [] 2 2 2 2 2 where
  o := fun v w hv => (order_bad hn v w hv).mono (by rintro e w' ⟨rfl, hb⟩; exact ⟨_, rfl, ints_nil _, hb⟩)
  c := fun v w hv => (cycle_bad hn v w hv).mono (by rintro e w' ⟨rfl, hb⟩; exact ⟨_, rfl, ints_nil _, hb⟩)
  v := fun v w hv => (view_bad hn v w hv).mono (by rintro e w' ⟨rfl, hb⟩; exact ⟨_, rfl, ints_nil _, hb⟩)
  s := fun v w hv => (snOrder_bad hn v w hv).mono (by rintro e w' ⟨rfl, hb⟩; exact ⟨_, rfl, ints_nil _, hb⟩)
  d := fun v w hv => (danger_bad hn v w hv).mono (by rintro e w' ⟨rfl, hb⟩; exact ⟨_, rfl, (ownOps_nil 48 0 _).ops, hb⟩)
theorem five_all {h : List NOp} (hh : VH h) (hP : AllP h) : Five (castO h) (castN ((ordN h).getD [])) (castN ((cycN h).getD [])) (castN ((vwN h).getD [])) (castN ((snOrd h).getD [])) (castO (dgN h)) (if (ordN h).isSome then 0 else 8) (if (cycN h).isSome then 0 else 5) (if (vwN h).isSome then 0 else 5) (if (snOrd h).isSome then 0 else 5) 0 where
  o := fun v w hv => order_any hh v w hv
  c := fun v w hv => cycleP_any hh v w hv
  v := fun v w hv => view_any hh v w hv
  s := fun v w hv => snOrder_all hh hP v w hv
  d := fun v w hv => danger_all hh hP v w hv
theorem five_not {h : List NOp} (hh : VH h) (hP : ¬ AllP h) : Five (castO h) (castN ((ordN h).getD [])) (castN ((cycN h).getD [])) (castN ((vwN h).getD [])) [] (castO []) (if (ordN h).isSome then 0 else 8) (if (cycN h).isSome then 0 else 5) (if (vwN h).isSome then 0 else 5) 7 7 where
  o := fun v w hv => order_any hh v w hv
  c := fun v w hv => cycleP_any hh v w hv
  v := fun v w hv => view_any hh v w hv
  s := fun v w hv => (snOrder_not hh hP v w hv).mono (by rintro e w' ⟨rfl, hb⟩; exact ⟨_, rfl, ints_nil _, hb⟩)
  d := fun v w hv => (danger_not hh hP v w hv).mono (by rintro e w' ⟨rfl, hb⟩; exact ⟨_, rfl, (ownOps_nil 48 0 _).ops, hb⟩)
theorem five_same {h : List NOp} (hh : VH h) : ∃ (x1 x2 x3 x4 : List Int) (x5 : List NOp) (E1 E2 E3 E4 E5 : Int), E1 ≠ 2 ∧ Five (castO h) x1 x2 x3 x4 (castO x5) E1 E2 E3 E4 E5 ∧ Five (castO (partN h)) x1 x2 x3 x4 (castO x5) E1 E2 E3 E4 E5 := by
  have hE : (if (ordN h).isSome then (0 : Int) else 8) ≠ 2 := by split <;> decide
  by_cases hP : AllP h
  · have h2 := five_all (part_vh hh) ((part_all hh).2 hP)
    rw [part_ordN hh, part_cycN hh, part_vwN hh, part_snOrd hh, part_dgN hh] at h2
    exact ⟨_, _, _, _, _, _, _, _, _, _, hE, five_all hh hP, h2⟩
  · have h2 := five_not (part_vh hh) (fun q => hP ((part_all hh).1 q))
    rw [part_ordN hh, part_cycN hh, part_vwN hh] at h2
    exact ⟨_, _, _, _, _, _, _, _, _, _, hE, five_not hh hP, h2⟩
theorem five_any (m : List HOp) : ∃ (x1 x2 x3 x4 : List Int) (x5 : List HOp) (E1 E2 E3 E4 E5 : Int), Five m x1 x2 x3 x4 x5 E1 E2 E3 E4 E5 := by
  by_cases h : ValidH m
  · obtain ⟨g, hg, rfl⟩ := validH_nat h
    by_cases hP : AllP g
    · exact ⟨_, _, _, _, _, _, _, _, _, _, five_all hg hP⟩
    · exact ⟨_, _, _, _, _, _, _, _, _, _, five_not hg hP⟩
  · exact ⟨_, _, _, _, _, _, _, _, _, _, five_bad h⟩
theorem prt_part {h : List NOp} (hh : VH h) : prtTo (castO h) (castO h).length = castO (partN h) := by
  unfold prtTo partN castO
  rw [List.take_length, List.filter_map]
  congr 1
  refine List.filter_congr fun d hd => ?_
  refine decide_eq_decide.2 ?_
  obtain ⟨j, hj, e⟩ := List.getElem_of_mem hd
  have e1 : d.1 = tT h j := by rw [← e, nop_get hj]
  have t7 : d.1 < 7 := by rw [e1]; have := hh.t6 j hj; omega
  rw [endI_com t7, lv_com h t7]
  constructor
  · intro q
    obtain ⟨c, hc, ec⟩ := List.mem_map.1 q
    obtain ⟨i, hi, e⟩ := List.getElem_of_mem hc
    rw [nop_get hi] at e
    rw [← e] at ec
    injection ec with e2 e3
    injection e3 with e3 e4
    have a1 : tT h i = d.1 := by have : ((tT h i : Nat) : Int) = ((d.1 : Nat) : Int) := e2; omega
    have a2 : tK h i = 2 := by have : ((tK h i : Nat) : Int) = 2 := e3; omega
    have := en_is hh (q := 2) (by omega) hi a2
    rw [a1] at this
    have hl := hh.le
    omega
  · intro q
    rcases en_spec h 2 d.1 h.length hh.le with e | ⟨e2, e3, e4⟩
    · exact absurd e.1 q
    · have x0 := (hh.x5 _ e2).2 (by omega)
      refine List.mem_map.2 ⟨h[en h 2 h.length d.1], List.getElem_mem e2, ?_⟩
      rw [nop_get e2, e3, e4, x0]
      rfl
set_option maxRecDepth 100000 in
set_option maxHeartbeats 16000000 in
theorem parts_gen {l m : List HOp} (hm43 : m.length ≤ 43) (hm : l.take 43 = m) {x1 x2 x3 x4 y1 y2 y3 y4 : List Int} {x5 y5 : List HOp} {E1 E2 E3 E4 E5 G1 G2 G3 G4 G5 : Int} {V : Bool} (hV : decide (ValidH l) = V)
    (A : Five m x1 x2 x3 x4 x5 E1 E2 E3 E4 E5) (B : Five (prtTo m m.length) y1 y2 y3 y4 y5 G1 G2 G3 G4 G5)
    (hg : (E1 = 2 ∧ V = false) ∨ (E1 ≠ 2 ∧ x1 = y1 ∧ x2 = y2 ∧ x3 = y3 ∧ x4 = y4 ∧ (∃ z, x5 = castO z ∧ y5 = castO z) ∧ E1 = G1 ∧ E2 = G2 ∧ E3 = G3 ∧ E4 = G4 ∧ E5 = G5)) (v : Value) (w : World) (hv : Ops w v l) :
    Calls Try.prog 14 #[v] w fun e w' => e = .returned (.bool true) ∧ Below w.heap.size w w' := by
  have HO := Lib.hid (fun w' (hb : Below w.heap.size w w') => of_any l v w' (Ops.keep hv hb))
  rw [hm] at HO
  have HR := Lib.hid (fun w' (hb : Below w.heap.size w w') => validR_any l v w' (Ops.keep hv hb))
  rw [hV] at HR
  have A1 := Lib.hid A.o
  have A2 := Lib.hid A.c
  have A3 := Lib.hid A.v
  have A4 := Lib.hid A.s
  have A5 := Lib.hid A.d
  have B1 := Lib.hid B.o
  have B2 := Lib.hid B.c
  have B3 := Lib.hid B.v
  have B4 := Lib.hid B.s
  have B5 := Lib.hid B.d
  have Hg := Lib.hid hg
  have HP := Lib.hid (fun k (hk : k < m.length) => prtTo_step hk)
  have HPl := Lib.hid (prtTo_le m)
  obtain ⟨a0, c0, rfl⟩ := ops_slice hv
  clear hv hm hV A B hg
  obtain ⟨Pf, hPf⟩ : ∃ P : Nat → List HOp, P = prtTo m := ⟨_, rfl⟩
  rw [← hPf] at HP HPl
  have HB := Lib.hid (show prtTo m m.length = Pf m.length from by rw [hPf])
  have HP0 := Lib.hid (show Pf 0 = [] from by rw [hPf]; rfl)
  unfold ResI at A1 A2 A3 A4 B1 B2 B3 B4
  unfold ResO at A5 B5
  rw [HB.out] at B1 B2 B3 B4 B5
  clear HB hPf
  go_enter Try.func14, Try.ntmps14
  go_wp2_with fail
  refine (HO.out _ (Below.refl _ _)).mono ?_
  rintro e w1 ⟨v1, rfl, ho1, hb1⟩
  obtain ⟨a1, b1, f1, c1, rfl, _, ha1, hcap1, hc1⟩ := Ops.get ho1.ops
  have Hix1 := Lib.hid (run_ix (P := Try.prog) (t := 29) (a := a1) (len := m.length) (cap := c1) (b := b1) (off := f1) (s := 3) Try.underlying29 (by intro w; kernel_rfl) ha1)
  have Hc1 := Lib.hid hc1
  have Hb1 := Lib.hid hb1
  clear ho1 hb1 ha1 hc1 hcap1
  go_wp2_with fail
  go_loopw [3, 29] (fun vo vi wr => ∃ (k : Nat) (o : Value), o = vo ∧ vi = .int .i64 k ∧ k ≤ m.length ∧ Below w1.heap.size w1 wr ∧ OwnOps 58 w1.heap.size wr o (Pf k)) (fun _ vi _ => m.length - (intOf vi).toNat)
  case atStart => exact ⟨0, _, rfl, rfl, Nat.zero_le _, Below.refl _ _, by rw [HP0.out]; exact ownOps_nil _ _ _⟩
  case round =>
    obtain ⟨k, o, rfl, rfl, hk, hb, hO⟩ := hrel
    obtain ⟨wA, hwA⟩ : ∃ wA : World, wA = wr := ⟨_, rfl⟩
    subst hwA
    have Hb := Lib.hid hb
    have HOw := Lib.hid hO
    clear hb hO
    by_cases hlt : k < m.length
    · have hixk := Hix1.out k
      have hc1 := Below.keep Hb.out (Hc1.out k hlt).1
      have hc2 := Below.keep Hb.out (Hc1.out k hlt).2.1
      have hc3 := Below.keep Hb.out (Hc1.out k hlt).2.2
      have HPk := Lib.hid (HP.out k hlt)
      have hpl := HPl.out k
      obtain ⟨T, hT⟩ : ∃ T, T = oT m k := ⟨_, rfl⟩
      obtain ⟨K, hK⟩ : ∃ T, T = oK m k := ⟨_, rfl⟩
      obtain ⟨J, hJ⟩ : ∃ T, T = oI m k := ⟨_, rfl⟩
      rw [← hT] at hc1 HPk
      rw [← hK] at hc2 HPk
      rw [← hJ] at hc3 HPk
      clear hT hK hJ
      go_upto_region 5 with fail
      obtain ⟨w4, hw4⟩ : ∃ w4, w4 = wA.alloc (.cells #[.int .i64 T, .int .i64 K, .int .i64 J] 58) := ⟨_, rfl⟩
      obtain ⟨ob, hob⟩ : ∃ ob, ob = wA.heap.size := ⟨_, rfl⟩
      have hbn := below_alloc wA (.cells #[.int .i64 T, .int .i64 K, .int .i64 J] 58)
      rw [← hw4] at hbn
      have Hb4 := Lib.hid (show Below w1.heap.size w1 w4.drew from (Below.tr Hb.out hbn).drew)
      have HO4 := Lib.hid (show OwnOps 58 w1.heap.size w4.drew o (Pf k) from World.ownsRow.drew (HOw.out.keep hbn))
      have G4 := Lib.hid (show w4.drew.cell? ⟨ob, 0, none⟩ = some (.int .i64 T) ∧ w4.drew.cell? ⟨ob, 1, none⟩ = some (.int .i64 K) ∧ w4.drew.cell? ⟨ob, 2, none⟩ = some (.int .i64 J) from by
        rw [hw4, hob]
        exact ⟨cell_new wA #[.int .i64 T, .int .i64 K, .int .i64 J] 58 0, cell_new wA #[.int .i64 T, .int .i64 K, .int .i64 J] 58 1, cell_new wA #[.int .i64 T, .int .i64 K, .int .i64 J] 58 2⟩)
      have HOf := Lib.hid (HO.out w4.drew (Below.tr Hb1.out Hb4.out))
      rw [← hw4, ← hob]
      clear hw4 hob hbn hc1 hc2 hc3 hixk Hb HOw
      refine wp_region_any (by kernel_rfl) ?_
      change wpAny _ _ _ _ _ _ _ (World.drew _)
      generalize w4.drew = w5 at *
      refine wpAny_take (i := 0) (v := ?_) rfl (by kernel_rfl) (by kernel_rfl) (by kernel_rfl) (fun _ _ _ h => h) (Or.inl ⟨by rfl, ?_⟩) ?_
      rotate_left
      focus (first | (intro w; go_simp; done) | (intro w; go_simp; with_reducible rfl))
      simp only [Act.put, List.getElem_toArray, List.getElem_cons_zero, List.setIfInBounds_toArray, List.set_cons_zero, List.set_cons_succ]
      refine wpAny_take (i := 2) (v := ?_) rfl (by kernel_rfl) (by kernel_rfl) (by kernel_rfl) (fun _ _ _ h => h) (Or.inl ⟨by rfl, ?_⟩) ?_
      rotate_left
      focus (first | (intro w; go_simp; done) | (intro w; go_simp; with_reducible rfl))
      simp only [Act.put, List.getElem_toArray, List.getElem_cons_zero, List.getElem_cons_succ, List.setIfInBounds_toArray, List.set_cons_zero, List.set_cons_succ]
      refine wpAny_ready (rs := [1, 3]) (by kernel_rfl) (by simp) ?_
      refine AllReady.cons rfl (fun K2 hK => ?_) ?_
      · go_simp
        go_at_call 18
        refine HOf.out.mono ?_
        rintro e w6 ⟨v6, rfl, ho6, hb6⟩
        obtain ⟨a6, c6, rfl⟩ := own_slice ho6
        have HC := Lib.hid (containsO_any T 2 0 m _ w6 ho6.ops)
        have g0 := Below.keep hb6 G4.out.1
        have G6 := Lib.hid (And.intro (Below.keep hb6 G4.out.1) (And.intro (Below.keep hb6 G4.out.2.1) (Below.keep hb6 G4.out.2.2)))
        have Hb6 := Lib.hid (Below.tr Hb4.out hb6)
        have HO6 := Lib.hid (HO4.out.keep hb6)
        clear ho6 hb6
        go_simp
        refine hK _ _ ?_
        clear hK K2
        refine wpAny_ready (rs := [3]) (by kernel_rfl) (by simp) ?_
        refine AllReady.cons rfl (fun K2 hK => ?_) AllReady.nil
        go_simp
        refine hK _ _ ?_
        clear hK K2 g0
        refine wpAny_take (i := 4) (v := ?_) rfl (by kernel_rfl) (by kernel_rfl) (by kernel_rfl) (fun _ _ _ h => h) (Or.inl ⟨by rfl, ?_⟩) ?_
        rotate_left
        focus (first | (intro w; go_simp; done) | (intro w; go_simp; with_reducible rfl))
        simp only [Act.put, List.getElem_toArray, List.getElem_cons_zero, List.getElem_cons_succ, List.setIfInBounds_toArray, List.set_cons_zero, List.set_cons_succ]
        refine wpAny_ready (rs := [5]) (by kernel_rfl) (by simp) ?_
        refine AllReady.cons rfl (fun K2 hK => ?_) AllReady.nil
        go_simp
        go_at_call 44
        refine HC.out.mono ?_
        rintro e w7 ⟨rfl, hb7⟩
        have G7 := Lib.hid (And.intro (Below.keep hb7 G6.out.1) (And.intro (Below.keep hb7 G6.out.2.1) (Below.keep hb7 G6.out.2.2)))
        have Hb7 := Lib.hid (Below.tr Hb6.out hb7)
        have HO7 := Lib.hid (HO6.out.keep hb7)
        clear hb7 HC
        go_simp
        refine hK _ _ ?_
        clear hK K2
        refine wpAny_done (by kernel_rfl) ?_ _
        by_cases e1 : (T, (2 : Int), (0 : Int)) ∈ m
        · have q1 : decide ((T, (2 : Int), (0 : Int)) ∈ m) = true := decide_eq_true e1
          have R := Lib.hid (HPk.out.trans (if_pos e1))
          have g0 := G7.out.1
          have g1 := G7.out.2.1
          have g2 := G7.out.2.2
          rw [q1]
          clear e1 q1
          go_wp2_with (at_builtin; refine append_own rfl (.tmp 39) (.tmp 41) 29 rfl elemOpsP rfl (World.ownsRow.alloc HO7.out _) [.int .i64 T, .int .i64 K, .int .i64 J] rfl rfl ?c1 ?c2 ?c3 ?c4 ?_)
          case c1 =>
            intro j u hj
            rw [cell_new]
            simpa using hj
          case c2 => intro u hu; simp at hu; rcases hu with rfl | rfl | rfl <;> rfl
          case c3 => omega
          case c4 => have := Hb7.out.size; simp; omega
          intro v2 w8 r1 r2 _
          have HOn := Lib.hid (show OwnOps 58 w1.heap.size w8 v2 (Pf (k + 1)) from by
            rw [R.out]
            exact OwnOps.snoc r1)
          have HBn := Lib.hid (show Below w1.heap.size w1 w8 from (Below.tr Hb7.out (below_alloc _ _)).trans r2)
          clear r1 r2 g0 g1 g2
          go_wp2_with fail
          go_roundw
          case rel => exact ⟨k + 1, v2, rfl, by go_num, by omega, HBn.out, HOn.out⟩
          case measure => simp [intOf]; omega
        · have q1 : decide ((T, (2 : Int), (0 : Int)) ∈ m) = false := decide_eq_false e1
          have R := Lib.hid (HPk.out.trans (if_neg e1))
          rw [q1]
          clear e1 q1
          go_wp2_with fail
          go_roundw
          case rel => exact ⟨k + 1, o, rfl, by go_num, by omega, Hb7.out, by rw [R.out]; exact HO7.out⟩
          case measure => simp [intOf]; omega
      · refine AllReady.cons rfl (fun K2 hK => ?_) AllReady.nil
        have g0 := G4.out.1
        go_simp
        refine hK _ _ ?_
        clear hK K2 g0
        refine wpAny_take (i := 4) (v := ?_) rfl (by kernel_rfl) (by kernel_rfl) (by kernel_rfl) (fun _ _ _ h => h) (Or.inl ⟨by rfl, ?_⟩) ?_
        rotate_left
        focus (first | (intro w; go_simp; done) | (intro w; go_simp; with_reducible rfl))
        simp only [Act.put, List.getElem_toArray, List.getElem_cons_zero, List.getElem_cons_succ, List.setIfInBounds_toArray, List.set_cons_zero, List.set_cons_succ]
        refine wpAny_ready (rs := [1]) (by kernel_rfl) (by simp) ?_
        refine AllReady.cons rfl (fun K2 hK => ?_) AllReady.nil
        go_simp
        go_at_call 18
        refine HOf.out.mono ?_
        rintro e w6 ⟨v6, rfl, ho6, hb6⟩
        obtain ⟨a6, c6, rfl⟩ := own_slice ho6
        have HC := Lib.hid (containsO_any T 2 0 m _ w6 ho6.ops)
        have G6 := Lib.hid (And.intro (Below.keep hb6 G4.out.1) (And.intro (Below.keep hb6 G4.out.2.1) (Below.keep hb6 G4.out.2.2)))
        have Hb6 := Lib.hid (Below.tr Hb4.out hb6)
        have HO6 := Lib.hid (HO4.out.keep hb6)
        clear ho6 hb6
        go_simp
        refine hK _ _ ?_
        clear hK K2
        refine wpAny_ready (rs := [5]) (by kernel_rfl) (by simp) ?_
        refine AllReady.cons rfl (fun K2 hK => ?_) AllReady.nil
        go_simp
        go_at_call 44
        refine HC.out.mono ?_
        rintro e w7 ⟨rfl, hb7⟩
        have G7 := Lib.hid (And.intro (Below.keep hb7 G6.out.1) (And.intro (Below.keep hb7 G6.out.2.1) (Below.keep hb7 G6.out.2.2)))
        have Hb7 := Lib.hid (Below.tr Hb6.out hb7)
        have HO7 := Lib.hid (HO6.out.keep hb7)
        clear hb7 HC
        go_simp
        refine hK _ _ ?_
        clear hK K2
        refine wpAny_done (by kernel_rfl) ?_ _
        by_cases e1 : (T, (2 : Int), (0 : Int)) ∈ m
        · have q1 : decide ((T, (2 : Int), (0 : Int)) ∈ m) = true := decide_eq_true e1
          have R := Lib.hid (HPk.out.trans (if_pos e1))
          have g0 := G7.out.1
          have g1 := G7.out.2.1
          have g2 := G7.out.2.2
          rw [q1]
          clear e1 q1
          go_wp2_with (at_builtin; refine append_own rfl (.tmp 39) (.tmp 41) 29 rfl elemOpsP rfl (World.ownsRow.alloc HO7.out _) [.int .i64 T, .int .i64 K, .int .i64 J] rfl rfl ?c1 ?c2 ?c3 ?c4 ?_)
          case c1 =>
            intro j u hj
            rw [cell_new]
            simpa using hj
          case c2 => intro u hu; simp at hu; rcases hu with rfl | rfl | rfl <;> rfl
          case c3 => omega
          case c4 => have := Hb7.out.size; simp; omega
          intro v2 w8 r1 r2 _
          have HOn := Lib.hid (show OwnOps 58 w1.heap.size w8 v2 (Pf (k + 1)) from by
            rw [R.out]
            exact OwnOps.snoc r1)
          have HBn := Lib.hid (show Below w1.heap.size w1 w8 from (Below.tr Hb7.out (below_alloc _ _)).trans r2)
          clear r1 r2 g0 g1 g2
          go_wp2_with fail
          go_roundw
          case rel => exact ⟨k + 1, v2, rfl, by go_num, by omega, HBn.out, HOn.out⟩
          case measure => simp [intOf]; omega
        · have q1 : decide ((T, (2 : Int), (0 : Int)) ∈ m) = false := decide_eq_false e1
          have R := Lib.hid (HPk.out.trans (if_neg e1))
          rw [q1]
          clear e1 q1
          go_wp2_with fail
          go_roundw
          case rel => exact ⟨k + 1, o, rfl, by go_num, by omega, Hb7.out, by rw [R.out]; exact HO7.out⟩
          case measure => simp [intOf]; omega
    · obtain rfl : k = m.length := by omega
      have Hbw := Lib.hid (Below.tr Hb1.out Hb.out)
      have HPw := Lib.hid HOw.out.ops
      obtain ⟨ao, co, rfl⟩ := own_slice HOw.out
      clear HOw
      have Hb100 := Lib.hid Hbw.out
      go_wp2_with fail
      refine (HO.out _ Hb100.out).mono ?_
      rintro e w101 ⟨vo1, rfl, hoo1, hb101⟩
      obtain ⟨ao1, co1, rfl⟩ := own_slice hoo1
      have Hb101 := Lib.hid (Below.tr Hb100.out hb101)
      have P_101 := Lib.hid (Ops.keep HPw.out hb101)
      have oo1_101 := Lib.hid (hoo1.ops)
      clear hb101 HPw
      clear hoo1
      go_wp2_with fail
      refine (A1.out _ _ oo1_101.out).mono ?_
      rintro e w102 ⟨vx1, rfl, hix1, hb102⟩
      obtain ⟨ax1, cx1, rfl⟩ := ints_slice hix1
      have Hb102 := Lib.hid (Below.tr Hb101.out hb102)
      have P_102 := Lib.hid (Ops.keep P_101.out hb102)
      have ix1_102 := Lib.hid (hix1)
      clear hb102 P_101
      clear hix1
      go_wp2_with fail
      refine (B1.out _ _ P_102.out).mono ?_
      rintro e w103 ⟨vy1, rfl, hiy1, hb103⟩
      obtain ⟨ay1, cy1, rfl⟩ := ints_slice hiy1
      have Hb103 := Lib.hid (Below.tr Hb102.out hb103)
      have P_103 := Lib.hid (Ops.keep P_102.out hb103)
      have ix1_103 := Lib.hid (Ints.keep ix1_102.out hb103)
      have iy1_103 := Lib.hid (hiy1)
      clear hb103 P_102 ix1_102
      clear hiy1
      go_wp2_with fail
      refine (HO.out _ Hb103.out).mono ?_
      rintro e w104 ⟨vo2, rfl, hoo2, hb104⟩
      obtain ⟨ao2, co2, rfl⟩ := own_slice hoo2
      have Hb104 := Lib.hid (Below.tr Hb103.out hb104)
      have P_104 := Lib.hid (Ops.keep P_103.out hb104)
      have ix1_104 := Lib.hid (Ints.keep ix1_103.out hb104)
      have iy1_104 := Lib.hid (Ints.keep iy1_103.out hb104)
      have oo2_104 := Lib.hid (hoo2.ops)
      clear hb104 P_103 ix1_103 iy1_103
      clear hoo2
      go_wp2_with fail
      refine (A2.out _ _ oo2_104.out).mono ?_
      rintro e w105 ⟨vx2, rfl, hix2, hb105⟩
      obtain ⟨ax2, cx2, rfl⟩ := ints_slice hix2
      have Hb105 := Lib.hid (Below.tr Hb104.out hb105)
      have P_105 := Lib.hid (Ops.keep P_104.out hb105)
      have ix1_105 := Lib.hid (Ints.keep ix1_104.out hb105)
      have iy1_105 := Lib.hid (Ints.keep iy1_104.out hb105)
      have ix2_105 := Lib.hid (hix2)
      clear hb105 P_104 ix1_104 iy1_104
      clear hix2
      go_wp2_with fail
      refine (B2.out _ _ P_105.out).mono ?_
      rintro e w106 ⟨vy2, rfl, hiy2, hb106⟩
      obtain ⟨ay2, cy2, rfl⟩ := ints_slice hiy2
      have Hb106 := Lib.hid (Below.tr Hb105.out hb106)
      have P_106 := Lib.hid (Ops.keep P_105.out hb106)
      have ix1_106 := Lib.hid (Ints.keep ix1_105.out hb106)
      have iy1_106 := Lib.hid (Ints.keep iy1_105.out hb106)
      have ix2_106 := Lib.hid (Ints.keep ix2_105.out hb106)
      have iy2_106 := Lib.hid (hiy2)
      clear hb106 P_105 ix1_105 iy1_105 ix2_105
      clear hiy2
      go_wp2_with fail
      refine (HO.out _ Hb106.out).mono ?_
      rintro e w107 ⟨vo3, rfl, hoo3, hb107⟩
      obtain ⟨ao3, co3, rfl⟩ := own_slice hoo3
      have Hb107 := Lib.hid (Below.tr Hb106.out hb107)
      have P_107 := Lib.hid (Ops.keep P_106.out hb107)
      have ix1_107 := Lib.hid (Ints.keep ix1_106.out hb107)
      have iy1_107 := Lib.hid (Ints.keep iy1_106.out hb107)
      have ix2_107 := Lib.hid (Ints.keep ix2_106.out hb107)
      have iy2_107 := Lib.hid (Ints.keep iy2_106.out hb107)
      have oo3_107 := Lib.hid (hoo3.ops)
      clear hb107 P_106 ix1_106 iy1_106 ix2_106 iy2_106
      clear hoo3
      go_wp2_with fail
      refine (A3.out _ _ oo3_107.out).mono ?_
      rintro e w108 ⟨vx3, rfl, hix3, hb108⟩
      obtain ⟨ax3, cx3, rfl⟩ := ints_slice hix3
      have Hb108 := Lib.hid (Below.tr Hb107.out hb108)
      have P_108 := Lib.hid (Ops.keep P_107.out hb108)
      have ix1_108 := Lib.hid (Ints.keep ix1_107.out hb108)
      have iy1_108 := Lib.hid (Ints.keep iy1_107.out hb108)
      have ix2_108 := Lib.hid (Ints.keep ix2_107.out hb108)
      have iy2_108 := Lib.hid (Ints.keep iy2_107.out hb108)
      have ix3_108 := Lib.hid (hix3)
      clear hb108 P_107 ix1_107 iy1_107 ix2_107 iy2_107
      clear hix3
      go_wp2_with fail
      refine (B3.out _ _ P_108.out).mono ?_
      rintro e w109 ⟨vy3, rfl, hiy3, hb109⟩
      obtain ⟨ay3, cy3, rfl⟩ := ints_slice hiy3
      have Hb109 := Lib.hid (Below.tr Hb108.out hb109)
      have P_109 := Lib.hid (Ops.keep P_108.out hb109)
      have ix1_109 := Lib.hid (Ints.keep ix1_108.out hb109)
      have iy1_109 := Lib.hid (Ints.keep iy1_108.out hb109)
      have ix2_109 := Lib.hid (Ints.keep ix2_108.out hb109)
      have iy2_109 := Lib.hid (Ints.keep iy2_108.out hb109)
      have ix3_109 := Lib.hid (Ints.keep ix3_108.out hb109)
      have iy3_109 := Lib.hid (hiy3)
      clear hb109 P_108 ix1_108 iy1_108 ix2_108 iy2_108 ix3_108
      clear hiy3
      go_wp2_with fail
      refine (HO.out _ Hb109.out).mono ?_
      rintro e w110 ⟨vo4, rfl, hoo4, hb110⟩
      obtain ⟨ao4, co4, rfl⟩ := own_slice hoo4
      have Hb110 := Lib.hid (Below.tr Hb109.out hb110)
      have P_110 := Lib.hid (Ops.keep P_109.out hb110)
      have ix1_110 := Lib.hid (Ints.keep ix1_109.out hb110)
      have iy1_110 := Lib.hid (Ints.keep iy1_109.out hb110)
      have ix2_110 := Lib.hid (Ints.keep ix2_109.out hb110)
      have iy2_110 := Lib.hid (Ints.keep iy2_109.out hb110)
      have ix3_110 := Lib.hid (Ints.keep ix3_109.out hb110)
      have iy3_110 := Lib.hid (Ints.keep iy3_109.out hb110)
      have oo4_110 := Lib.hid (hoo4.ops)
      clear hb110 P_109 ix1_109 iy1_109 ix2_109 iy2_109 ix3_109 iy3_109
      clear hoo4
      go_wp2_with fail
      refine (A4.out _ _ oo4_110.out).mono ?_
      rintro e w111 ⟨vx4, rfl, hix4, hb111⟩
      obtain ⟨ax4, cx4, rfl⟩ := ints_slice hix4
      have Hb111 := Lib.hid (Below.tr Hb110.out hb111)
      have P_111 := Lib.hid (Ops.keep P_110.out hb111)
      have ix1_111 := Lib.hid (Ints.keep ix1_110.out hb111)
      have iy1_111 := Lib.hid (Ints.keep iy1_110.out hb111)
      have ix2_111 := Lib.hid (Ints.keep ix2_110.out hb111)
      have iy2_111 := Lib.hid (Ints.keep iy2_110.out hb111)
      have ix3_111 := Lib.hid (Ints.keep ix3_110.out hb111)
      have iy3_111 := Lib.hid (Ints.keep iy3_110.out hb111)
      have ix4_111 := Lib.hid (hix4)
      clear hb111 P_110 ix1_110 iy1_110 ix2_110 iy2_110 ix3_110 iy3_110
      clear hix4
      go_wp2_with fail
      refine (B4.out _ _ P_111.out).mono ?_
      rintro e w112 ⟨vy4, rfl, hiy4, hb112⟩
      obtain ⟨ay4, cy4, rfl⟩ := ints_slice hiy4
      have Hb112 := Lib.hid (Below.tr Hb111.out hb112)
      have P_112 := Lib.hid (Ops.keep P_111.out hb112)
      have ix1_112 := Lib.hid (Ints.keep ix1_111.out hb112)
      have iy1_112 := Lib.hid (Ints.keep iy1_111.out hb112)
      have ix2_112 := Lib.hid (Ints.keep ix2_111.out hb112)
      have iy2_112 := Lib.hid (Ints.keep iy2_111.out hb112)
      have ix3_112 := Lib.hid (Ints.keep ix3_111.out hb112)
      have iy3_112 := Lib.hid (Ints.keep iy3_111.out hb112)
      have ix4_112 := Lib.hid (Ints.keep ix4_111.out hb112)
      have iy4_112 := Lib.hid (hiy4)
      clear hb112 P_111 ix1_111 iy1_111 ix2_111 iy2_111 ix3_111 iy3_111 ix4_111
      clear hiy4
      go_wp2_with fail
      refine (HO.out _ Hb112.out).mono ?_
      rintro e w113 ⟨vo5, rfl, hoo5, hb113⟩
      obtain ⟨ao5, co5, rfl⟩ := own_slice hoo5
      have Hb113 := Lib.hid (Below.tr Hb112.out hb113)
      have P_113 := Lib.hid (Ops.keep P_112.out hb113)
      have ix1_113 := Lib.hid (Ints.keep ix1_112.out hb113)
      have iy1_113 := Lib.hid (Ints.keep iy1_112.out hb113)
      have ix2_113 := Lib.hid (Ints.keep ix2_112.out hb113)
      have iy2_113 := Lib.hid (Ints.keep iy2_112.out hb113)
      have ix3_113 := Lib.hid (Ints.keep ix3_112.out hb113)
      have iy3_113 := Lib.hid (Ints.keep iy3_112.out hb113)
      have ix4_113 := Lib.hid (Ints.keep ix4_112.out hb113)
      have iy4_113 := Lib.hid (Ints.keep iy4_112.out hb113)
      have oo5_113 := Lib.hid (hoo5.ops)
      clear hb113 P_112 ix1_112 iy1_112 ix2_112 iy2_112 ix3_112 iy3_112 ix4_112 iy4_112
      clear hoo5
      go_wp2_with fail
      refine (A5.out _ _ oo5_113.out).mono ?_
      rintro e w114 ⟨vx5, rfl, hix5, hb114⟩
      obtain ⟨ax5, cx5, rfl⟩ := ops_slice hix5
      have Hb114 := Lib.hid (Below.tr Hb113.out hb114)
      have P_114 := Lib.hid (Ops.keep P_113.out hb114)
      have ix1_114 := Lib.hid (Ints.keep ix1_113.out hb114)
      have iy1_114 := Lib.hid (Ints.keep iy1_113.out hb114)
      have ix2_114 := Lib.hid (Ints.keep ix2_113.out hb114)
      have iy2_114 := Lib.hid (Ints.keep iy2_113.out hb114)
      have ix3_114 := Lib.hid (Ints.keep ix3_113.out hb114)
      have iy3_114 := Lib.hid (Ints.keep iy3_113.out hb114)
      have ix4_114 := Lib.hid (Ints.keep ix4_113.out hb114)
      have iy4_114 := Lib.hid (Ints.keep iy4_113.out hb114)
      have ix5_114 := Lib.hid (hix5)
      clear hb114 P_113 ix1_113 iy1_113 ix2_113 iy2_113 ix3_113 iy3_113 ix4_113 iy4_113
      clear hix5
      go_wp2_with fail
      refine (B5.out _ _ P_114.out).mono ?_
      rintro e w115 ⟨vy5, rfl, hiy5, hb115⟩
      obtain ⟨ay5, cy5, rfl⟩ := ops_slice hiy5
      have Hb115 := Lib.hid (Below.tr Hb114.out hb115)
      have P_115 := Lib.hid (Ops.keep P_114.out hb115)
      have ix1_115 := Lib.hid (Ints.keep ix1_114.out hb115)
      have iy1_115 := Lib.hid (Ints.keep iy1_114.out hb115)
      have ix2_115 := Lib.hid (Ints.keep ix2_114.out hb115)
      have iy2_115 := Lib.hid (Ints.keep iy2_114.out hb115)
      have ix3_115 := Lib.hid (Ints.keep ix3_114.out hb115)
      have iy3_115 := Lib.hid (Ints.keep iy3_114.out hb115)
      have ix4_115 := Lib.hid (Ints.keep ix4_114.out hb115)
      have iy4_115 := Lib.hid (Ints.keep iy4_114.out hb115)
      have ix5_115 := Lib.hid (Ops.keep ix5_114.out hb115)
      have iy5_115 := Lib.hid (hiy5)
      clear hb115 P_114 ix1_114 iy1_114 ix2_114 iy2_114 ix3_114 iy3_114 ix4_114 iy4_114 ix5_114
      clear hiy5
      rcases Hg.out with ⟨e1, e2⟩ | ⟨e0, e1, e2, e3, e4, ⟨z, e5, e6⟩, e7, e8, e9, e10, e11⟩
      · subst e1 e2
        clear Hg
        go_wp2_with fail
        refine (HR.out _ Hb115.out).mono ?_
        rintro e w116 ⟨rfl, hb116⟩
        have Hb116 := Lib.hid (Below.tr Hb115.out hb116)
        have P_116 := Lib.hid (Ops.keep P_115.out hb116)
        have ix1_116 := Lib.hid (Ints.keep ix1_115.out hb116)
        have iy1_116 := Lib.hid (Ints.keep iy1_115.out hb116)
        have ix2_116 := Lib.hid (Ints.keep ix2_115.out hb116)
        have iy2_116 := Lib.hid (Ints.keep iy2_115.out hb116)
        have ix3_116 := Lib.hid (Ints.keep ix3_115.out hb116)
        have iy3_116 := Lib.hid (Ints.keep iy3_115.out hb116)
        have ix4_116 := Lib.hid (Ints.keep ix4_115.out hb116)
        have iy4_116 := Lib.hid (Ints.keep iy4_115.out hb116)
        have ix5_116 := Lib.hid (Ops.keep ix5_115.out hb116)
        have iy5_116 := Lib.hid (Ops.keep iy5_115.out hb116)
        clear hb116 P_115 ix1_115 iy1_115 ix2_115 iy2_115 ix3_115 iy3_115 ix4_115 iy4_115 ix5_115 iy5_115
        go_wp2_with fail
        refine (awake_any _).mono ?_
        rintro e w117 ⟨rfl, hb117⟩
        have Hb117 := Lib.hid (Below.tr Hb116.out hb117)
        have P_117 := Lib.hid (Ops.keep P_116.out hb117)
        have ix1_117 := Lib.hid (Ints.keep ix1_116.out hb117)
        have iy1_117 := Lib.hid (Ints.keep iy1_116.out hb117)
        have ix2_117 := Lib.hid (Ints.keep ix2_116.out hb117)
        have iy2_117 := Lib.hid (Ints.keep iy2_116.out hb117)
        have ix3_117 := Lib.hid (Ints.keep ix3_116.out hb117)
        have iy3_117 := Lib.hid (Ints.keep iy3_116.out hb117)
        have ix4_117 := Lib.hid (Ints.keep ix4_116.out hb117)
        have iy4_117 := Lib.hid (Ints.keep iy4_116.out hb117)
        have ix5_117 := Lib.hid (Ops.keep ix5_116.out hb117)
        have iy5_117 := Lib.hid (Ops.keep iy5_116.out hb117)
        clear hb117 P_116 ix1_116 iy1_116 ix2_116 iy2_116 ix3_116 iy3_116 ix4_116 iy4_116 ix5_116 iy5_116
        go_wp2_with fail
        go_ret
        exact ⟨rfl, Hb117.out⟩
      · subst e1 e2 e3 e4 e7 e8 e9 e10 e11
        subst e5 e6
        have q0 : (E1 == 2) = false := by rw [beq_eq_false_iff_ne]; exact e0
        clear Hg e0
        go_wp2_with fail
        refine (equal_yes rfl _ _ _ ix1_115.out iy1_115.out).mono ?_
        rintro e w116 ⟨rfl, hb116⟩
        have Hb116 := Lib.hid (Below.tr Hb115.out hb116)
        have P_116 := Lib.hid (Ops.keep P_115.out hb116)
        have ix2_116 := Lib.hid (Ints.keep ix2_115.out hb116)
        have iy2_116 := Lib.hid (Ints.keep iy2_115.out hb116)
        have ix3_116 := Lib.hid (Ints.keep ix3_115.out hb116)
        have iy3_116 := Lib.hid (Ints.keep iy3_115.out hb116)
        have ix4_116 := Lib.hid (Ints.keep ix4_115.out hb116)
        have iy4_116 := Lib.hid (Ints.keep iy4_115.out hb116)
        have ix5_116 := Lib.hid (Ops.keep ix5_115.out hb116)
        have iy5_116 := Lib.hid (Ops.keep iy5_115.out hb116)
        clear hb116 P_115 ix2_115 iy2_115 ix3_115 iy3_115 ix4_115 iy4_115 ix5_115 iy5_115
        go_wp2_with fail
        refine (equal_yes rfl _ _ _ ix2_116.out iy2_116.out).mono ?_
        rintro e w117 ⟨rfl, hb117⟩
        have Hb117 := Lib.hid (Below.tr Hb116.out hb117)
        have P_117 := Lib.hid (Ops.keep P_116.out hb117)
        have ix3_117 := Lib.hid (Ints.keep ix3_116.out hb117)
        have iy3_117 := Lib.hid (Ints.keep iy3_116.out hb117)
        have ix4_117 := Lib.hid (Ints.keep ix4_116.out hb117)
        have iy4_117 := Lib.hid (Ints.keep iy4_116.out hb117)
        have ix5_117 := Lib.hid (Ops.keep ix5_116.out hb117)
        have iy5_117 := Lib.hid (Ops.keep iy5_116.out hb117)
        clear hb117 P_116 ix3_116 iy3_116 ix4_116 iy4_116 ix5_116 iy5_116
        go_wp2_with fail
        refine (equal_yes rfl _ _ _ ix3_117.out iy3_117.out).mono ?_
        rintro e w118 ⟨rfl, hb118⟩
        have Hb118 := Lib.hid (Below.tr Hb117.out hb118)
        have P_118 := Lib.hid (Ops.keep P_117.out hb118)
        have ix4_118 := Lib.hid (Ints.keep ix4_117.out hb118)
        have iy4_118 := Lib.hid (Ints.keep iy4_117.out hb118)
        have ix5_118 := Lib.hid (Ops.keep ix5_117.out hb118)
        have iy5_118 := Lib.hid (Ops.keep iy5_117.out hb118)
        clear hb118 P_117 ix4_117 iy4_117 ix5_117 iy5_117
        go_wp2_with fail
        refine (equal_yes rfl _ _ _ ix4_118.out iy4_118.out).mono ?_
        rintro e w119 ⟨rfl, hb119⟩
        have Hb119 := Lib.hid (Below.tr Hb118.out hb119)
        have P_119 := Lib.hid (Ops.keep P_118.out hb119)
        have ix5_119 := Lib.hid (Ops.keep ix5_118.out hb119)
        have iy5_119 := Lib.hid (Ops.keep iy5_118.out hb119)
        clear hb119 P_118 ix5_118 iy5_118
        go_wp2_with fail
        refine (equalT_yes _ _ _ _ ix5_119.out iy5_119.out).mono ?_
        rintro e w120 ⟨rfl, hb120⟩
        have Hb120 := Lib.hid (Below.tr Hb119.out hb120)
        have P_120 := Lib.hid (Ops.keep P_119.out hb120)
        clear hb120 P_119
        go_wp2_with fail
        refine (awake_any _).mono ?_
        rintro e w121 ⟨rfl, hb121⟩
        have Hb121 := Lib.hid (Below.tr Hb120.out hb121)
        have P_121 := Lib.hid (Ops.keep P_120.out hb121)
        clear hb121 P_120
        go_wp2_with fail
        go_ret
        exact ⟨rfl, Hb121.out⟩
theorem parts_any (l : List HOp) (v : Value) (w : World) (hv : Ops w v l) :
    Calls Try.prog 14 #[v] w fun e w' => e = .returned (.bool true) ∧ Below w.heap.size w w' := by
  have h43 : (l.take 43).length ≤ 43 := by rw [List.length_take]; omega
  by_cases h : ValidH l
  · obtain ⟨g, hg, rfl⟩ := validH_nat h
    have htk : (castO g).take 43 = castO g := List.take_of_length_le (by rw [castO_length]; have := hg.le; omega)
    obtain ⟨x1, x2, x3, x4, x5, E1, E2, E3, E4, E5, hE, h1, h2⟩ := five_same hg
    rw [← prt_part hg] at h2
    exact parts_gen (by rw [castO_length]; have := hg.le; omega) htk (decide_eq_true h) h1 h2 (.inr ⟨hE, rfl, rfl, rfl, rfl, ⟨x5, rfl, rfl⟩, rfl, rfl, rfl, rfl, rfl⟩) v w hv
  · obtain ⟨y1, y2, y3, y4, y5, G1, G2, G3, G4, G5, h2⟩ := five_any (prtTo (l.take 43) (l.take 43).length)
    exact parts_gen h43 rfl (decide_eq_false h) (five_bad fun q => h ((valid_take l).1 q)) h2 (.inl ⟨rfl, rfl⟩) v w hv

namespace historyParts
open Go.ChangeShapes Go.WideShapes Go.ChangeAt
set_option maxRecDepth 100000 in
theorem lifted (os : Os) (started : os.Started) (H : Type) (enc : TypeId × Value → H) :
    ReturnsInHanded {} Try.checked os 14 .any (Rows.historyPartsSpec.pre6 enc Try.prog Try.f14 Rows.historyPartsRow.domain false) (Rows.historyPartsSpec.post enc Try.prog Try.f14 false true false false) := by
  refine returnsInHanded_of_change (C := Try.checked) Try.own started (by kernel_rfl) Try.func14
    (ChangeSpec.witness6 (enc := enc) (C := Try.checked) false ⟨#[], #[.slice none 0 0], []⟩ 8 (by kernel_rfl) (by kernel_rfl) (by kernel_rfl) (by kernel_rfl)) ?_
  intro W base args ds gs before hval0 hW _ _
  have hval : ∀ (j : Nat) t v, Try.f14.params[j]? = some t → args[j]? = some v → Value.okWide Try.prog W .any base t v := hval0
  clear hval0
  obtain rfl : gs = [] := by obtain ⟨p, q, _, hV, _⟩ := hW; exact (trodVars_none hV).1
  have hW' := hW
  obtain ⟨p, q, hA0, hV, rfl, hfz, hnd⟩ := hW
  have hA : DataW.TrodAll enc Try.prog W 0 (fun _ => true) true Try.f14.params.toList args.toList ds p := hA0
  rw [Try.params14] at hA hval
  obtain ⟨v0, vs0, d0, ds0, p0, q0, hv0, hd0, hp0, h0, r0⟩ := trodAll_cons hA
  obtain ⟨hvn, hdn, hpn⟩ := trodAll_nil r0
  have ha : args = #[v0] := by cases args; simp_all
  have hdd : ds = [d0] := by simp_all
  rw [ha] at hval
  obtain ⟨a0, k0⟩ := ops_of_trod Try.underlying23 Try.underlying55 ⟨rfl, rfl⟩ ⟨rfl, rfl⟩ ⟨rfl, rfl⟩ Try.underlying3 cellsInt cellsOpR (okWide_slice Try.underlying23 (hval 0 23 v0 rfl rfl)) h0
  have hw : Calls Try.prog 14 args W (fun e W' => e = .returned (.bool true) ∧ Below W.heap.size W W') := by
    rw [ha]; exact parts_any a0 v0 W k0
  exact hw.mono fun e W' ⟨he, hb⟩ => ⟨_, he, law_post Try.laidOut hW' rfl rfl Try.underlying4 (by rw [hdd]; rfl)
    (by kernel_rfl) hb⟩

theorem holds : Rows.HistoryPartsSaid :=
  OpenClaim.holds_of_wide 14 Try.f14 rfl rfl rfl rfl rfl rfl rfl ⟨rfl, rfl, rfl, rfl, rfl⟩ rfl rfl rfl rfl rfl (by kernel_rfl) Try.func14 (by kernel_rfl)
    (of_decide_eq_true (by kernel_rfl)) (by unfold Func.isWrapper; first | (rw [if_pos (by decide +kernel)]; kernel_rfl) | (rw [if_neg (by decide +kernel)]; exact ⟨rfl, rfl⟩))
    (fun os started H enc _ => lifted os started H enc)
#print axioms holds
end historyParts
end Go.Proofs.Ytpehbffkplmfjaa

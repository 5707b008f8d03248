/- Contract of applyDep. -/
import Derived.Test.YtnidalbfmicoiaaWalkCb
import Derived.Test.YtnidalbfmicoiaaWalkF
import Derived.Test.YtnidalbfmicoiaaWalkU
import Derived.StillTailTactics
namespace Go.Proofs.Ytnidalbfmicoiaa
open Go.RowKit

theorem Only.heap {gs : List Nat} {w w' : World} (h : Only gs w w') : w.heap.size ≤ w'.heap.size := h.1.size
theorem hold2o {gs : List Nat} {w w' : World} {a b : Addr} {u v : Value} (h1 : w.cell? a = some u) (h2 : w.cell? b = some v) (h : Below w.heap.size w w') : w'.cell? a = some u ∧ w'.cell? b = some v ∧ Only gs w w' :=
  ⟨Below.keep h h1, Below.keep h h2, Only.of_below h⟩
/-- what the inner loop holds -/
def InnerSt (l : List DepN) (T0 : List (List Int)) (k m : Nat) (T1 T' : List (List Int)) (d : DepN) (i j a : Nat) (f f1 : Bool) : Prop :=
  Inv l T0 k m T' ∧ (∀ b, b < m → cell T1 j b = cell T1 i b → cell T' j b = cell T' i b) ∧ (∀ b, a ≤ b → b < m → ∀ i', i' < k → cell T' i' b = cell T1 i' b) ∧
    ((f = f1 ∧ T' = T1 ∧ ∀ b, b < a → ¬ (d.2.testBit b = true ∧ cell T1 j b ≠ cell T1 i b)) ∨ (f = true ∧ tsum T' < tsum T1))
theorem InnerSt.skip {l : List DepN} {T0 T1 T' : List (List Int)} {k m i j a : Nat} {d : DepN} {f f1 : Bool} (h : InnerSt l T0 k m T1 T' d i j a f f1) (hs : ¬ (d.2.testBit a = true ∧ cell T1 j a ≠ cell T1 i a)) : InnerSt l T0 k m T1 T' d i j (a + 1) f f1 :=
  ⟨h.1, h.2.1, fun b hb => h.2.2.1 b (by omega), h.2.2.2.elim (fun q => .inl ⟨q.1, q.2.1, fun b hb => by
    rcases Nat.lt_succ_iff_lt_or_eq.1 hb with hb | rfl
    · exact q.2.2 b hb
    · exact hs⟩) .inr⟩
theorem InnerSt.step {l : List DepN} {T0 T1 T' : List (List Int)} {k m i j a : Nat} {d : DepN} {f f1 : Bool} (h : InnerSt l T0 k m T1 T' d i j a f f1) (hd : d ∈ l) (hi : i < k) (hj : j < k) (ha : a < m) (hag : AgreeOn T1 m d.1 j i) (hb : d.2.testBit a = true) (hne : cell T1 j a ≠ cell T1 i a) :
    InnerSt l T0 k m T1 (T'.map (ren a (max (cell T' j a) (cell T' i a)) (min (cell T' j a) (cell T' i a)))) d i j (a + 1) true f1 := by
  obtain ⟨h1, h2, h3, h4⟩ := h
  have e1 := h3 a (Nat.le_refl _) ha j hj
  have e2 := h3 a (Nat.le_refl _) ha i hi
  obtain ⟨s1, s2⟩ := step_all h1 hd hj hi (fun b q1 q2 => h2 b q1 (hag b q1 q2)) ha hb (by rw [e1, e2]; exact hne)
  refine ⟨s1, fun b q1 q2 => agree_ren h1.1 ha _ _ hj hi (h2 b q1 q2), fun b q1 q2 i' hi' => ?_, .inr ⟨rfl, ?_⟩⟩
  · rw [cell_ren h1.1 ha _ _ hi', if_neg (fun q => by omega)]
    exact h3 b (by omega) q2 i' hi'
  · rcases h4 with ⟨-, rfl, -⟩ | ⟨-, h5⟩
    · exact s2
    · omega
theorem InnerSt.done {l : List DepN} {T0 T T1 T' : List (List Int)} {k m i j : Nat} {d : DepN} {f f1 : Bool} {D : Prop} (h : InnerSt l T0 k m T1 T' d i j m f f1) (hw : Went l T0 k m T T1 f1 D) : Went l T0 k m T T' f (D ∧ PairOk T m d i j) := by
  obtain ⟨h1, h2, h3, h4⟩ := h
  refine ⟨h1, ?_⟩
  rcases hw.2 with ⟨rfl, rfl, hD⟩ | ⟨rfl, hlt⟩
  · rcases h4 with ⟨rfl, rfl, h5⟩ | ⟨rfl, h5⟩
    · refine .inl ⟨rfl, rfl, hD, fun _ b q1 q2 => ?_⟩
      exact Classical.byContradiction fun q => h5 b q1 ⟨q2, q⟩
    · exact .inr ⟨rfl, h5⟩
  · rcases h4 with ⟨rfl, rfl, h5⟩ | ⟨rfl, h5⟩
    · exact .inr ⟨rfl, hlt⟩
    · exact .inr ⟨rfl, by omega⟩

set_option maxHeartbeats 4000000 in
set_option maxRecDepth 100000 in
theorem apply_any (l : List DepN) (T0 : List (List Int)) (k m base ob oc : Nat) (gs : List Nat) (d : DepN) (hd : d ∈ l) (h1 : d.1 < 2 ^ m) (h2 : d.2 < 2 ^ m) (hk8 : k ≤ 8) (hm8 : m ≤ 8) (T : List (List Int)) (hI : Inv l T0 k m T) (w : World) (hob : ob ∉ gs) (hT : Tab base m w (.slice (some ⟨ob, 0, none⟩) k oc) gs T) :
    Calls Try.prog 97 #[.slice (some ⟨ob, 0, none⟩) k oc, .agg #[.int .i64 (d.1 : Nat), .int .i64 (d.2 : Nat)]] w fun e w' => ∃ (b : Bool) (T' : List (List Int)), e = .returned (.bool b) ∧ Tab base m w' (.slice (some ⟨ob, 0, none⟩) k oc) gs T' ∧ Only gs w w' ∧ Went l T0 k m T T' b (∀ i, i < k → ∀ j, j < i → PairOk T m d i j) := by
  have p256 := pow_small m hm8
  have hd1 : d.1 < 256 := by omega
  have hd2 : d.2 < 256 := by omega
  have HT := Lib.hid hT
  have HI := Lib.hid hI
  have Hd := Lib.hid hd
  have Hd1 := Lib.hid h1
  have Hob := Lib.hid hob
  have Hgl := Lib.hid hT.1
  have Hgw := Lib.hid (show w.heap.size ∉ gs from fun h => by have := (hT.lt _ h).2; omega)
  have hix := run_ix (P := Try.prog) (t := 34) (a := some ⟨ob, 0, none⟩) (len := k) (cap := oc) (b := ob) (off := 0) (s := 1) Try.underlying34 (by intro w; kernel_rfl) (fun _ => rfl)
  have c0 := cell_new w #[.int .i64 (d.1 : Nat), .int .i64 (d.2 : Nat)] 32 0
  have c1 := cell_new w #[.int .i64 (d.1 : Nat), .int .i64 (d.2 : Nat)] 32 1
  have hb0 := below_alloc w (.cells #[.int .i64 (d.1 : Nat), .int .i64 (d.2 : Nat)] 32)
  have C0 := Lib.hid c0
  have C1 := Lib.hid c1
  have Hb0 := Lib.hid hb0
  clear hT hI hd h1 h2 p256 hob c0 c1 hb0
  go_enter Try.func97, Try.ntmps97
  go_wp2_with fail
  generalize w.alloc (.cells #[.int .i64 (d.1 : Nat), .int .i64 (d.2 : Nat)] 32) = w2 at *
  go_loopw [5, 12] (fun f i wr => ∃ (ii : Nat) (fb : Bool) (T' : List (List Int)), f = .bool fb ∧ i = .int .i64 ii ∧ ii ≤ k ∧ Tab base m wr (.slice (some ⟨ob, 0, none⟩) k oc) gs T' ∧ Only gs w2 wr ∧ Went l T0 k m T T' fb (∀ i, i < ii → ∀ j, j < i → PairOk T m d i j)) (fun _ i _ => k - (intOf i).toNat)
  case atStart => exact ⟨0, false, T, rfl, rfl, Nat.zero_le _, HT.out.keep Hb0.out, Only.refl _ _, HI.out, .inl ⟨rfl, rfl, fun i h => by omega⟩⟩
  case round =>
    obtain ⟨ii, fb, T1, rfl, rfl, hii, htab, honly, hwent⟩ := hrel
    have Htab := Lib.hid htab
    have Honly := Lib.hid honly
    have Hwent := Lib.hid hwent
    clear htab honly hwent
    by_cases hlt : ii < k
    · go_wp2_with fail
      obtain ⟨wo, rfl⟩ : ∃ wo : World, wo = wr := ⟨_, rfl⟩
      go_loopw [5, 16] (fun f j wr => ∃ (jj : Nat) (fb : Bool) (T' : List (List Int)), f = .bool fb ∧ j = .int .i64 jj ∧ jj ≤ ii ∧ Tab base m wr (.slice (some ⟨ob, 0, none⟩) k oc) gs T' ∧ Only gs w2 wr ∧ Went l T0 k m T T' fb ((∀ i, i < ii → ∀ j, j < i → PairOk T m d i j) ∧ ∀ j, j < jj → PairOk T m d ii j)) (fun _ j _ => ii - (intOf j).toNat)
      case atStart => exact ⟨0, fb, T1, rfl, rfl, Nat.zero_le _, Htab.out, Honly.out, Hwent.out.imp fun _ h => ⟨h, fun j hj => by omega⟩⟩
      case round =>
        obtain ⟨jj, fb1, T2, rfl, rfl, hjj, htab2, honly2, hwent2⟩ := hrel
        have Htab2 := Lib.hid htab2
        have Honly2 := Lib.hid honly2
        have Hwent2 := Lib.hid hwent2
        clear htab2 honly2 hwent2 Htab Honly Hwent
        by_cases hlt2 : jj < ii
        · have hsh : Shape T2 k m := Hwent2.out.1.1
          have hjk1 : (0 : Int) ≤ (jj : Int) := by omega
          have hjk2 : (jj : Int) < (k : Int) := by omega
          have hjk3 : jj < k := by omega
          have qi : ii < T2.length := by rw [hsh.1]; exact hlt
          have qj : jj < T2.length := by rw [hsh.1]; omega
          have gi : ii < gs.length := by rw [Htab2.out.1]; exact qi
          have gj : jj < gs.length := by rw [Htab2.out.1]; exact qj
          have ci := Htab2.out.cellAt ii qi gi
          have cj := Htab2.out.cellAt jj qj gj
          have Hii := Lib.hid (Htab2.out.ints ii qi gi)
          have Hij := Lib.hid (Htab2.out.ints jj qj gj)
          have eri : row T2 ii = T2[ii] := by unfold row; simp [List.getD, qi]
          have erj : row T2 jj = T2[jj] := by unfold row; simp [List.getD, qj]
          have li : T2[ii].length = m := by rw [← eri]; exact hsh.2 ii hlt
          have lj : T2[jj].length = m := by rw [← erj]; exact hsh.2 jj (by omega)
          have Hag := Lib.hid (agree_iff (s := d.1) hsh (i := jj) (j := ii) (by omega) Hd1.out)
          have Hab := Lib.hid (fun a ha => agr_bit (j := ii) (a := a) hsh (i := jj) (by omega) ha)
          have hal := agr_ltT (j := ii) hsh (i := jj) (by omega)
          have Hne := Lib.hid (show gs[ii] ∈ gs from List.getElem_mem gi)
          have Hnj := Lib.hid (show gs[jj] ∈ gs from List.getElem_mem gj)
          rw [eri, erj] at Hag Hab hal
          unfold rowV at ci cj Hii Hij
          have Hsh := Lib.hid hsh
          have p256 := pow_small m hm8
          have ci2 := Lib.hid ci
          have cj2 := Lib.hid cj
          have Hli := Lib.hid li
          have Hlj := Lib.hid lj
          clear hsh eri erj li lj ci cj
          generalize hgi : gs[ii] = g1 at *
          generalize hgj : gs[jj] = g2 at *
          have Hgi := Lib.hid hgi
          have Hgj := Lib.hid hgj
          clear hgi hgj
          go_wp2_with fail
          go_region_held3 (fun w' => w'.cell? ⟨ob, ii, none⟩ = some (.slice (some ⟨g1, 0, none⟩) m m) ∧ w'.cell? ⟨ob, jj, none⟩ = some (.slice (some ⟨g2, 0, none⟩) m m) ∧ Below wr.heap.size wr w')
            ((refine hold2 ci2.out cj2.out ?_; repeat (first | exact Below.refl _ _ | refine Below.drew ?_ | refine Below.tr ?_ (below_alloc _ _) | refine Below.tr ?_ (by assumption))))
            (first | (go_at_call 89; refine (agreement_any T2[jj] T2[ii] (by rw [Hlj.out]; exact hm8) (by rw [Hlj.out, Hli.out]) _ _ _ (by exact Ints.keep Hij.out (Below.refl _ _).drew) (by exact Ints.keep Hii.out (Below.refl _ _).drew)).mono ?_; rintro e w4 ⟨rfl, hb4⟩))
          have Hb4 := Lib.hid (show Below wr.heap.size wr w4 from Below.tr (Below.refl _ _).drew hb4)
          clear hb4
          have Ho4 := Lib.hid (Honly2.out.trans (Only.of_below Hb4.out))
          have c0 : w4.cell? ⟨w.heap.size, 0, none⟩ = some (.int .i64 (d.1 : Nat)) := Ho4.out.cell Hgw.out C0.out
          have c1 : w4.cell? ⟨w.heap.size, 1, none⟩ = some (.int .i64 (d.2 : Nat)) := Ho4.out.cell Hgw.out C1.out
          have ci4 := Below.keep Hb4.out ci2.out
          generalize hE : agr T2[jj] T2[ii] = E at *
          have HE := Lib.hid hE
          clear hE
          go_wp2_with fail
          refine (contains_any E d.1 (by omega) (by omega) _).mono ?_
          rintro e w5 ⟨rfl, rfl⟩
          by_cases hs : Sub d.1 E
          · rw [decide_eq_true hs]
            have Hagr := Lib.hid (Hag.out.1 hs)
            clear hs
            go_wp2_with fail
            have Htab4 := Lib.hid (Htab2.out.keep Hb4.out)
            obtain ⟨wi, hwi⟩ : ∃ wi : World, wi = w4 := ⟨_, rfl⟩
            subst hwi
            go_loopw [5, 38] (fun f a wr => ∃ (aa : Nat) (fb : Bool) (T' : List (List Int)), f = .bool fb ∧ a = .int .i64 aa ∧ aa ≤ m ∧ Tab base m wr (.slice (some ⟨ob, 0, none⟩) k oc) gs T' ∧ Only gs w2 wr ∧ InnerSt l T0 k m T2 T' d ii jj aa fb fb1) (fun _ a _ => m - (intOf a).toNat)
            case atStart => exact ⟨0, fb1, T2, rfl, rfl, Nat.zero_le _, Htab4.out, Ho4.out, Hwent2.out.1, fun _ _ h => h, fun _ _ _ _ _ => rfl, .inl ⟨rfl, rfl, fun b hb => by omega⟩⟩
            case round =>
              obtain ⟨aa, fb2, T3, rfl, rfl, haa, htab3, honly3, hin⟩ := hrel
              have Htab3 := Lib.hid htab3
              have Honly3 := Lib.hid honly3
              have Hin := Lib.hid hin
              clear htab3 honly3 hin
              by_cases hlt3 : aa < m
              · have c0 : wr.cell? ⟨w.heap.size, 0, none⟩ = some (.int .i64 (d.1 : Nat)) := Honly3.out.cell Hgw.out C0.out
                have c1 : wr.cell? ⟨w.heap.size, 1, none⟩ = some (.int .i64 (d.2 : Nat)) := Honly3.out.cell Hgw.out C1.out
                have ean : bits .andNot .i64 (d.2 : Nat) (E : Nat) = ((ndiff d.2 E : Nat) : Int) := bits_andNot_nat _ _ (by omega) (by omega)
                have hnd := ndiff_le d.2 E
                have t1 := shr_bit (ndiff d.2 E) aa (by omega)
                have tb : (ndiff d.2 E).testBit aa = (d.2.testBit aa && !decide (cell T2 jj aa = cell T2 ii aa)) := by rw [testBit_ndiff, Hab.out aa hlt3]
                rw [tb] at t1
                clear tb
                by_cases hbit : d.2.testBit aa = true ∧ cell T2 jj aa ≠ cell T2 ii aa
                · rw [if_pos (by simp [hbit.1, hbit.2])] at t1
                  have Hbit := Lib.hid hbit
                  clear hbit
                  have hsh3 : Shape T3 k m := Hin.out.1.1
                  have qi3 : ii < T3.length := by rw [hsh3.1]; exact hlt
                  have qj3 : jj < T3.length := by rw [hsh3.1]; omega
                  have ci3 := Htab3.out.cellAt ii qi3 gi
                  have cj3 := Htab3.out.cellAt jj qj3 gj
                  have ni3 := (Htab3.out.numAt ii qi3 gi aa hlt3).1
                  have nj3 := (Htab3.out.numAt jj qj3 gj aa hlt3).1
                  have eri : T3[ii].getD aa 0 = cell T3 ii aa := by unfold cell row; simp [List.getD, qi3]
                  have erj : T3[jj].getD aa 0 = cell T3 jj aa := by unfold cell row; simp [List.getD, qj3]
                  rw [Hgi.out, eri] at ni3
                  rw [Hgj.out, erj] at nj3
                  rw [Hgi.out] at ci3
                  rw [Hgj.out] at cj3
                  unfold rowV at ci3 cj3
                  have R := Lib.hid (Hin.out.step Hd.out hlt (by omega) hlt3 Hagr.out Hbit.out.1 Hbit.out.2)
                  have hixi := run_ix (P := Try.prog) (t := 56) (a := some ⟨g1, 0, none⟩) (len := m) (cap := m) (b := g1) (off := 0) (s := 1) Try.underlying56 (by intro w; kernel_rfl) (fun _ => rfl)
                  have hixj := run_ix (P := Try.prog) (t := 56) (a := some ⟨g2, 0, none⟩) (len := m) (cap := m) (b := g2) (off := 0) (s := 1) Try.underlying56 (by intro w; kernel_rfl) (fun _ => rfl)
                  have hk3 := hsh3.1.symm
                  have Hk3 := Lib.hid hk3
                  clear hsh3 eri erj hk3
                  generalize hx : cell T3 jj aa = x at *
                  generalize hy : cell T3 ii aa = y at *
                  have Hx := Lib.hid hx
                  have Hy := Lib.hid hy
                  clear hx hy
                  go_wp2_with fail
                  go_still_tail 16, (by kernel_rfl)
                  change wpList _ _ _ _ _ wr.drew
                  have Htab5 := Lib.hid (show Tab base m wr.drew (.slice (some ⟨ob, 0, none⟩) k oc) gs T3 from Htab3.out.keep (Below.refl _ _).drew)
                  have Honly5 := Lib.hid (Honly3.out.trans (Only.of_below (Below.refl _ _).drew))
                  generalize wr.drew = w6 at *
                  go_wp2_with fail
                  refine (replace_any base m ob k oc gs T3 w6 Htab5.out Hk3.out aa hlt3 hk8 x y (max x y) (min x y) rfl rfl).mono ?_
                  rintro e w7 ⟨rfl, htab7, ho7⟩
                  have Htab7 := Lib.hid htab7
                  have Ho7 := Lib.hid (Honly5.out.trans ho7)
                  clear htab7 ho7
                  go_wp2_with fail
                  go_roundw
                  case rel => exact ⟨aa + 1, _, _, rfl, by go_num, by omega, Htab7.out, Ho7.out, R.out⟩
                  case measure => simp [intOf]; omega
                · rw [if_neg (by simpa using hbit)] at t1
                  have R := Lib.hid (Hin.out.skip hbit)
                  clear hbit
                  go_wp2_with fail
                  go_roundw
                  case rel => exact ⟨aa + 1, _, _, rfl, by go_num, by omega, Htab3.out, Honly3.out, R.out⟩
                  case measure => simp [intOf]; omega
              · obtain rfl : aa = m := by omega
                have R := Lib.hid (Hin.out.done Hwent2.out)
                go_wp2_with fail
                go_roundw
                case rel => exact ⟨jj + 1, fb2, T3, rfl, by go_num, by omega, Htab3.out, Honly3.out, R.out.imp fun _ h => ⟨h.1.1, fun j hj => by
                  rcases Nat.lt_succ_iff_lt_or_eq.1 hj with hj | rfl
                  · exact h.1.2 j hj
                  · exact h.2⟩⟩
                case measure => simp [intOf]; omega
          · rw [decide_eq_false hs]
            have Hna := Lib.hid (fun h => hs (Hag.out.2 h))
            clear hs
            have Htab4 := Lib.hid (Htab2.out.keep Hb4.out)
            go_wp2_with fail
            go_roundw
            case rel => exact ⟨jj + 1, fb1, T2, rfl, by go_num, by omega, Htab4.out, Ho4.out, Hwent2.out.imp fun e h => ⟨h.1, fun j hj => by
              rcases Nat.lt_succ_iff_lt_or_eq.1 hj with hj | rfl
              · exact h.2 j hj
              · exact fun q => absurd (by rw [e]; exact q) Hna.out⟩⟩
            case measure => simp [intOf]; omega
        · obtain rfl : jj = ii := by omega
          go_wp2_with fail
          go_roundw
          case rel => exact ⟨jj + 1, fb1, T2, rfl, by go_num, by omega, Htab2.out, Honly2.out, Hwent2.out.imp fun _ h i hi j hj => by
            rcases Nat.lt_succ_iff_lt_or_eq.1 hi with hi | rfl
            · exact h.1 i hi j hj
            · exact h.2 j hj⟩
          case measure => simp [intOf]; omega
    · obtain rfl : ii = k := by omega
      go_wp2_with fail
      go_ret
      exact ⟨fb, T1, rfl, Htab.out, (Only.of_below Hb0.out).trans Honly.out, Hwent.out⟩
end Go.Proofs.Ytnidalbfmicoiaa

/- Contract of chase. -/
import Derived.Test.YtnidalbfmicoiaaWalkCc
import Derived.Test.YtnidalbfmicoiaaWalkCd
namespace Go.Proofs.Ytnidalbfmicoiaa
open Go.RowKit

/-- the first rows of the chase -/
def initTo (q : List Nat) (m k : Nat) : List (List Int) := (List.range k).map fun i => outRow (q.getD i 0) ((i + 1 : Nat) : Int) m
theorem initTo_succ (q : List Nat) (m k : Nat) : initTo q m (k + 1) = initTo q m k ++ [outRow (q.getD k 0) ((k + 1 : Nat) : Int) m] := by simp [initTo, List.range_succ]
theorem initTo_length (q : List Nat) (m k : Nat) : (initTo q m k).length = k := by simp [initTo]
theorem outRow_length (s : Nat) (x : Int) (m : Nat) : (outRow s x m).length = m := by simp [outRow]
theorem init_row (q : List Nat) (m k i : Nat) (hi : i < k) : row (initTo q m k) i = outRow (q.getD i 0) ((i + 1 : Nat) : Int) m := by
  unfold row initTo; simp [List.getD, hi]
theorem init_cell (q : List Nat) (m k i a : Nat) (hi : i < k) (ha : a < m) : cell (initTo q m k) i a = if (q.getD i 0).testBit a then 0 else ((i + 1 : Nat) : Int) := by
  unfold cell; rw [init_row q m k i hi]; simp [outRow, List.getD, ha]; try rfl
theorem init_inv (l : List DepN) (q : List Nat) (m k : Nat) : Inv l (initTo q m k) k m (initTo q m k) :=
  inv_init ⟨initTo_length q m k, fun i hi => by rw [init_row q m k i hi, outRow_length]⟩ fun i a hi ha => by
    rw [init_cell q m k i a hi ha]; split <;> omega
theorem Tab.ob_notin {base m ob oc k : Nat} {w : World} {gs : List Nat} {T : List (List Int)} (h : Tab base m w (.slice (some ⟨ob, 0, none⟩) k oc) gs T) : ob ∉ gs := by
  intro hg
  obtain ⟨i, hi, e⟩ := List.mem_iff_getElem.1 hg
  have := rows_apart (h.2.2.2 i (by rw [← h.1]; exact hi) hi).2 h.2.2.1 (by decide)
  rcases this with h | h
  · simp [rowV, Value.ownBlock] at h
  · apply h; simp [rowV, Value.ownBlock, e]
theorem Ints.unique {w : World} {v : Value} {a b : List Int} (h : Ints w v a) (k : Ints w v b) : a = b := by
  obtain ⟨x, p, off, cap, rfl, -, hx, hc⟩ := h.get
  obtain ⟨x', p', off', cap', e, -, hx', hc'⟩ := k.get
  injection e with e1 e2 e3
  subst e1
  apply List.ext_getElem e2
  intro i h1 h2
  have f1 := hx (by omega)
  have f2 := hx' (by omega)
  rw [f1] at f2
  injection f2 with f2
  injection f2 with f3 f4
  subst f3 f4
  have g1 := hc i h1
  have g2 := hc' i h2
  rw [g1] at g2
  injection g2 with g2
  injection g2
theorem Rows.unique {w : World} {v : Value} {A B : List (List Int)} (h : Rows w v A) (k : Rows w v B) : A = B := by
  obtain ⟨x, p, off, cap, vs, rfl, -, hx, hl, hc, hr⟩ := h.get
  obtain ⟨x', p', off', cap', vs', e, -, hx', hl', hc', hr'⟩ := k.get
  injection e with e1 e2 e3
  subst e1
  apply List.ext_getElem e2
  intro i h1 h2
  have f1 := hx (by omega)
  have f2 := hx' (by omega)
  rw [f1] at f2
  injection f2 with f2
  injection f2 with f3 f4
  subst f3 f4
  have g1 := hc i (by omega)
  have g2 := hc' i (by omega)
  rw [g1] at g2
  injection g2 with g2
  have q1 := hr i h1 (by omega)
  have q2 := hr' i h2 (by omega)
  rw [← g2] at q2
  exact q1.unique q2
open Classical in
/-- the sum of the table that lies there -/
noncomputable def tsumAt (w : World) (v : Value) : Nat := if h : ∃ T, Rows w v T then tsum h.choose else 0
theorem tsumAt_eq {w : World} {v : Value} {T : List (List Int)} (h : Rows w v T) : tsumAt w v = tsum T := by
  unfold tsumAt
  have hex : ∃ T, Rows w v T := ⟨T, h⟩
  rw [dif_pos hex, hex.choose_spec.unique h]
def bit (v : Value) : Nat := match v with | .bool true => 1 | _ => 0

set_option maxHeartbeats 4000000 in
set_option maxRecDepth 100000 in
theorem chase_any {m k : Nat} {l : List DepN} (hok : Okl m l) (q : List Nat) (hk : k = q.length) (hk1 : 1 ≤ k) (hk8 : k ≤ 8) (hq : ∀ p ∈ q, p < 2 ^ m) (v u : Value) (w : World) (hv : Deps w v (castD l)) (hu : Ints w u (castN q)) :
    Calls Try.prog 88 #[.int .i64 m, v, u] w fun e w' => ∃ v' T, e = .returned v' ∧ Rows w' v' T ∧ ChaseEnd l (initTo q m k) k m T ∧ Below w.heap.size w w' := by
  have hm8 := hok.h8
  have hlen := hok.h12
  have Hl := Lib.hid hok.hl
  have Hq := Lib.hid hq
  have Hk := Lib.hid hk
  have p256 := pow_small m hm8
  obtain ⟨a, b, off, cap, rfl, hle, ha, hcc⟩ := Deps.get hv
  have e0 : (castD l).length = l.length := by simp [castD]
  have hc' : ∀ i (h : i < l.length), w.cell? ⟨b, off + i * 2, none⟩ = some (.int .i64 ((l[i].1 : Nat) : Int)) ∧ w.cell? ⟨b, off + i * 2 + 1, none⟩ = some (.int .i64 ((l[i].2 : Nat) : Int)) := by
    intro i hi
    have := hcc i (by omega)
    simpa [castD] using this
  rw [e0] at hle ha
  have hix := run_ix (P := Try.prog) (t := 28) (a := a) (len := l.length) (cap := cap) (b := b) (off := off) (s := 2) Try.underlying28 (by intro w; kernel_rfl) ha
  have Hc := Lib.hid hc'
  obtain ⟨a2, b2, off2, cap2, rfl, hle2, ha2, hcc2⟩ := Ints.get hu
  have e1 := castN_length q
  have hc2 : ∀ i (h : i < q.length), w.cell? ⟨b2, off2 + i, none⟩ = some (.int .i64 ((q[i] : Nat) : Int)) := by
    intro i hi
    have := hcc2 i (by rw [e1]; exact hi)
    simpa [castN] using this
  rw [e1, ← hk] at hle2 ha2
  have hix2 := run_ix (P := Try.prog) (t := 56) (a := a2) (len := k) (cap := cap2) (b := b2) (off := off2) (s := 1) Try.underlying56 (by intro w; kernel_rfl) ha2
  have Hc2 := Lib.hid hc2
  rw [e0, e1, ← hk]
  clear ha hcc hv hc' ha2 hcc2 hc2 e0 e1 hu hk hq hok
  go_enter Try.func88, Try.ntmps88
  go_wp2_with fail
  go_loopw [7, 15] (fun o i wr => ∃ (j : Nat) (gs : List Nat) (oa : Option Addr) (oc : Nat), o = .slice oa j oc ∧ i = .int .i64 j ∧ j ≤ k ∧ Tab w.heap.size m wr (.slice oa j oc) gs (initTo q m j) ∧ Below w.heap.size w wr) (fun _ i _ => k - (intOf i).toNat)
  case atStart => exact ⟨0, [], none, 0, rfl, rfl, Nat.zero_le _, Tab.nil _ _ _, Below.refl _ _⟩
  case round =>
    obtain ⟨j, gs, oa, oc, rfl, rfl, hj, htab, hb⟩ := hrel
    have Htab := Lib.hid htab
    have Hb := Lib.hid hb
    clear htab hb
    by_cases hlt : j < k
    · have hj2 : j < q.length := by have := Hk.out; omega
      have hcell := Below.keep Hb.out (Hc2.out j hj2)
      have hqj := Hq.out _ (List.getElem_mem hj2)
      have hget : q.getD j 0 = q[j] := by simp [List.getD, hj2]
      have Hsucc := Lib.hid (initTo_succ q m j)
      rw [hget] at Hsucc
      clear hget
      generalize q[j] = p at *
      go_wp2_with fail
      refine (rowOutside_any m p _ hm8 (by omega) _).mono ?_
      rintro e w2 ⟨rfl, ho2, hb2⟩
      have Htab2 := Lib.hid (Htab.out.keep hb2)
      have Hb2 := Lib.hid (Below.tr Hb.out hb2)
      have Ho2 := Lib.hid ho2
      have hsz := hb2.size
      have Hsz := Lib.hid hsz
      have Hown2 := Lib.hid (show w2.ownsRow w.heap.size 56 1 (.slice oa j oc) j (gs.map (rowV m)) by have := Htab2.out.2.2.1; rwa [initTo_length] at this)
      have Hgs := Lib.hid (show ∀ g ∈ gs, g ≠ wr.heap.size from fun g hg e => by have := (Htab.out.lt g hg).2; omega)
      clear ho2 hb2 hsz
      go_wp2_with (at_builtin; go_loud (refine append_own rfl (.tmp 20) (.tmp 26) 34 rfl elem34 rfl (World.ownsRow.alloc Hown2.out _) [rowV m wr.heap.size] rfl rfl (by intro j u hj; unfold rowV at hj; go_simp) (by intro u hu; simp at hu; subst hu; rfl) (by omega) (by have := Hb2.out.size; simp; omega) ?_))
      intro v' w6 hown6 hb6 hg6
      have HT6 := Lib.hid (show Tab w.heap.size m w6 v' (gs ++ [wr.heap.size]) (initTo q m (j + 1)) by
        rw [Hsucc.out]
        refine Tab.append (n := j + 1) (Htab2.out.keep (below_alloc _ _)) Hgs.out (outRow_length _ _ _) ?_ (by rw [initTo_length]) hown6 hg6
        exact World.ownsRow.alloc (owns_base (by simpa [rowV] using Ho2.out) Hb.out.size) _)
      have HB6 := Lib.hid ((Hb2.out.alloc Hb2.out.size _).trans hb6)
      obtain ⟨na, nc, rfl⟩ := ownRow_slice hown6
      clear hown6 hb6 hg6
      go_wp2_with fail
      go_roundw
      case rel => exact ⟨j + 1, _, _, _, rfl, by go_num, by omega, HT6.out, HB6.out⟩
      case measure => simp [intOf]; omega
    · obtain rfl : j = k := by omega
      clear hlt
      obtain ⟨ob, oc', ho⟩ := Htab.out.head (by rw [initTo_length]; omega)
      rw [initTo_length] at ho
      injection ho with h1 h2 h3
      subst h1 h3
      have Hob := Lib.hid Htab.out.ob_notin
      have Hbg := Lib.hid (show ∀ g ∈ gs, w.heap.size ≤ g from fun g hg => (Htab.out.lt g hg).1)
      have Hinit := Lib.hid (init_inv l q m j)
      clear h2
      go_wp2_with fail
      obtain ⟨w3, hw3⟩ : ∃ w3 : World, w3 = wr := ⟨_, rfl⟩
      subst hw3
      generalize hT0 : initTo q m j = T0 at *
      have HT0 := Lib.hid hT0
      clear hT0
      go_loopw [10] (fun f wr => ∃ (fb : Bool) (T : List (List Int)), f = .bool fb ∧ Tab w.heap.size m wr (.slice (some ⟨ob, 0, none⟩) j oc) gs T ∧ Only gs w3 wr ∧ Inv l T0 j m T ∧ (fb = false → Kept l T j m)) (fun f wr => 2 * tsumAt wr (.slice (some ⟨ob, 0, none⟩) j oc) + bit f)
      case atStart => exact ⟨true, T0, rfl, Htab.out, Only.refl _ _, Hinit.out, by simp⟩
      case round =>
        obtain ⟨fb, T, rfl, htab2, honly2, hinv, hkept⟩ := hrel
        have Htab2 := Lib.hid htab2
        have Honly2 := Lib.hid honly2
        have Hinv := Lib.hid hinv
        have Hkept := Lib.hid hkept
        have Hsum := Lib.hid (tsumAt_eq htab2.rows)
        clear htab2 honly2 hinv hkept
        cases fb with
        | false =>
          have Hrows := Lib.hid Htab2.out.rows
          have Hend := Lib.hid (Hkept.out rfl)
          have HB := Lib.hid (Hb.out.trans (Honly2.out.below Hb.out.size Hbg.out))
          go_wp2_with fail
          go_ret
          exact ⟨_, rfl, T, Hrows.out, by rw [HT0.out]; exact ⟨Hinv.out, Hend.out⟩, HB.out⟩
        | true =>
          go_wp2_with fail
          obtain ⟨wo, hwo⟩ : ∃ wo : World, wo = wr := ⟨_, rfl⟩
          subst hwo
          go_loopw [10, 32] (fun f i wr => ∃ (fb : Bool) (ii : Nat) (T' : List (List Int)), f = .bool fb ∧ i = .int .i64 ii ∧ ii ≤ l.length ∧ Tab w.heap.size m wr (.slice (some ⟨ob, 0, none⟩) j oc) gs T' ∧ Only gs w3 wr ∧ Went l T0 j m T T' fb (∀ n, n < ii → ∀ d, l[n]? = some d → ∀ i, i < j → ∀ j, j < i → PairOk T m d i j)) (fun _ i _ => l.length - (intOf i).toNat)
          case atStart => exact ⟨false, 0, T, rfl, rfl, Nat.zero_le _, Htab2.out, Honly2.out, Hinv.out, .inl ⟨rfl, rfl, fun n hn => by omega⟩⟩
          case round =>
            obtain ⟨fb, ii, T2, rfl, rfl, hii, htab3, honly3, hwent⟩ := hrel
            have Htab3 := Lib.hid htab3
            have Honly3 := Lib.hid honly3
            have Hwent := Lib.hid hwent
            clear htab3 honly3 hwent
            by_cases hlt : ii < l.length
            · have Hb3 := Lib.hid (Hb.out.trans (Honly3.out.below Hb.out.size Hbg.out))
              have hc1 := Below.keep Hb3.out (Hc.out ii hlt).1
              have hc2 := Below.keep Hb3.out (Hc.out ii hlt).2
              have hld := Hl.out _ (List.getElem_mem hlt)
              have Hmem := Lib.hid (List.getElem_mem hlt)
              have Hget := Lib.hid (List.getElem?_eq_getElem hlt)
              generalize l[ii] = d at *
              go_wp2_with fail
              have Htab4 := Lib.hid (Htab3.out.keep (below_alloc wr (.cells #[.int .i64 (d.1 : Nat), .int .i64 (d.2 : Nat)] 32)))
              have Ho4 := Lib.hid (Honly3.out.trans (Only.of_below (below_alloc wr (.cells #[.int .i64 (d.1 : Nat), .int .i64 (d.2 : Nat)] 32))))
              refine (apply_any l T0 j m w.heap.size ob oc gs d Hmem.out hld.1 hld.2 hk8 hm8 T2 Hwent.out.1 _ Hob.out Htab4.out).mono ?_
              rintro e w7 ⟨bb, T3, rfl, htab7, ho7, hwent7⟩
              have Htab7 := Lib.hid htab7
              have Ho7 := Lib.hid (Ho4.out.trans ho7)
              have Hwent7 := Lib.hid hwent7
              clear htab7 ho7 hwent7
              cases bb with
              | true =>
                have R := Lib.hid (show Went l T0 j m T T3 true (∀ n, n < ii + 1 → ∀ d, l[n]? = some d → ∀ i, i < j → ∀ j, j < i → PairOk T m d i j) by
                  refine ⟨Hwent7.out.1, .inr ⟨rfl, ?_⟩⟩
                  have h3 : tsum T3 < tsum T2 := by
                    rcases Hwent7.out.2 with ⟨h, -⟩ | ⟨-, h⟩
                    · cases h
                    · exact h
                  rcases Hwent.out.2 with ⟨-, h, -⟩ | ⟨-, h⟩
                  · rw [← h]; exact h3
                  · omega)
                go_wp2_with fail
                go_roundw
                case rel => exact ⟨true, ii + 1, T3, rfl, by go_num, by omega, Htab7.out, Ho7.out, R.out⟩
                case measure => simp [intOf]; omega
              | false =>
                have R := Lib.hid (show Went l T0 j m T T3 fb (∀ n, n < ii + 1 → ∀ d, l[n]? = some d → ∀ i, i < j → ∀ j, j < i → PairOk T m d i j) by
                  rcases Hwent7.out.2 with ⟨-, rfl, h7⟩ | ⟨h, -⟩
                  · refine Hwent.out.imp fun e h n hn d' hd' => ?_
                    rcases Nat.lt_succ_iff_lt_or_eq.1 hn with hn | rfl
                    · exact h n hn d' hd'
                    · have := Hget.out
                      rw [this] at hd'
                      cases hd'
                      rw [← e]; exact h7
                  · cases h)
                go_wp2_with fail
                go_roundw
                case rel => exact ⟨fb, ii + 1, T3, rfl, by go_num, by omega, Htab7.out, Ho7.out, R.out⟩
                case measure => simp [intOf]; omega
            · obtain rfl : ii = l.length := by omega
              have Hk2 := Lib.hid (show fb = false → Kept l T2 j m from fun e => by
                rcases Hwent.out.2 with ⟨-, e2, h⟩ | ⟨h, -⟩
                · rw [e2]
                  refine kept_of fun d hd => ?_
                  obtain ⟨n, hn, rfl⟩ := List.mem_iff_getElem.1 hd
                  exact h n hn _ (List.getElem?_eq_getElem hn)
                · rw [e] at h; cases h)
              have Hs2 := Lib.hid (tsumAt_eq Htab3.out.rows)
              have Hlt2 := Lib.hid (show 2 * tsum T2 + bit (.bool fb) < 2 * tsum T + bit (.bool true) by
                rcases Hwent.out.2 with ⟨h1, h2, -⟩ | ⟨h1, h2⟩
                · rw [h1, h2]; show _ + 0 < _ + 1; omega
                · rw [h1]; omega)
              go_wp2_with fail
              go_roundw
              case rel => exact ⟨fb, T2, rfl, Htab3.out, Honly3.out, Hwent.out.1, Hk2.out⟩
              case measure => have h1 := Hsum.out; have h2 := Hs2.out; rw [h1, h2]; exact Hlt2.out
end Go.Proofs.Ytnidalbfmicoiaa

/- Contract of the reference's Chase. -/
import Derived.Test.YtnidalbfmicoiaaWalkCe
import Derived.Test.YtnidalbfmicoiaaWalkK
namespace Go.Proofs.Ytnidalbfmicoiaa
open Go.RowKit

theorem hold4c {w w' : World} {a b c d : Addr} {u v x y : Value} (h1 : w.cell? a = some u) (h2 : w.cell? b = some v) (h3 : w.cell? c = some x) (h4 : w.cell? d = some y) (h : Below w.heap.size w w') : w'.cell? a = some u ∧ w'.cell? b = some v ∧ w'.cell? c = some x ∧ w'.cell? d = some y ∧ Below w.heap.size w w' :=
  ⟨Below.keep h h1, Below.keep h h2, Below.keep h h3, Below.keep h h4, h⟩
set_option maxRecDepth 100000 in
theorem agreeQ_any (x y : List Int) (h8 : x.length ≤ 8) (hxy : y.length = x.length) (s : Nat) (hs : s < 2 ^ x.length) (u v : Value) (w : World) (hu : Ints w u x) (hv : Ints w v y) :
    Calls Try.prog 86 #[u, v, .int .i64 s] w fun e w' => e = .returned (.bool (decide (Sub s (agr x y)))) ∧ ∃ n, w' = w.drewN n := by
  obtain ⟨a, b, off, cap, rfl, hle, ha, hc⟩ := Ints.get hu
  obtain ⟨a', b', off', cap', rfl, hle', ha', hc'⟩ := Ints.get hv
  rw [hxy] at ha'
  have hix := run_ix (P := Try.prog) (t := 56) (a := a) (len := x.length) (cap := cap) (b := b) (off := off) (s := 1) Try.underlying56 (by intro w; kernel_rfl) ha
  have hix' := run_ix (P := Try.prog) (t := 56) (a := a') (len := x.length) (cap := cap') (b := b') (off := off') (s := 1) Try.underlying56 (by intro w; kernel_rfl) ha'
  simp only [Nat.mul_one] at hix hix'
  rw [hxy]
  have Hxy := Lib.hid hxy
  have Hc := Lib.hid hc
  have Hc' := Lib.hid hc'
  have Hs := Lib.hid hs
  have hs' : s < 256 := by have := pow_small x.length h8; omega
  clear ha ha' hu hv hxy hc hc' hs hle'
  go_enter Try.func86, Try.ntmps86
  go_wp2
  go_loopw [10] (fun i wr => ∃ k : Nat, i = .int .i64 k ∧ k ≤ x.length ∧ (∃ n, wr = w.drewN n) ∧ AgrOn x y s k) (fun i _ => x.length - (intOf i).toNat)
  case atStart => exact ⟨0, rfl, Nat.zero_le _, ⟨0, rfl⟩, fun i h => by omega⟩
  case round =>
    obtain ⟨k, rfl, hk, ⟨nd, rfl⟩, hin⟩ := hrel
    have Hb := Lib.hid (bdrewN (Below.refl w.heap.size w) nd)
    have Hin := Lib.hid hin
    clear hin
    by_cases hlt : k < x.length
    · have hlt' : k < y.length := by rw [Hxy.out]; exact hlt
      have hc1 := Hc.out k hlt
      have hc2 := Hc'.out k hlt'
      have t1 := shr_bit s k hs'
      have hx : x.getD k 0 = x[k] := by simp [List.getD, hlt]
      have hy : y.getD k 0 = y[k] := by simp [List.getD, hlt']
      cases hbit : s.testBit k with
      | true =>
        rw [hbit] at t1
        simp only [if_true] at t1
        by_cases he : x[k] = y[k]
        · have R := Lib.hid (show AgrOn x y s (k + 1) from fun a ha hb => by
            by_cases e : a = k
            · subst e; rw [hx, hy]; exact he
            · exact Hin.out a (by omega) hb)
          clear hx hy hbit
          go_wp2_with fail
          go_quiet (fail)
          go_wp2_with fail
          go_roundw
          case rel => exact ⟨k + 1, by go_num, by omega, (by first | exact ⟨_, rfl⟩ | exact ⟨_, World.drewN_drewN ..⟩), R.out⟩
          case measure => simp [intOf]; omega
        · have R := Lib.hid (show decide (Sub s (agr x y)) = false from decide_eq_false fun h => he (by
            have := (agrOn_iff Hs.out).2 h k hlt hbit
            rwa [hx, hy] at this))
          have t2 : (x[k] != y[k]) = true := by simpa using he
          clear hx hy hbit
          go_wp2_with fail
          go_quiet (fail)
          go_wp2_with fail
          go_ret
          exact ⟨congrArg (fun b => Ending.returned (.bool b)) R.out.symm, (by first | exact ⟨_, rfl⟩ | exact ⟨_, World.drewN_drewN ..⟩)⟩
      | false =>
        rw [hbit] at t1
        simp only [Bool.false_eq_true, if_false] at t1
        have R := Lib.hid (show AgrOn x y s (k + 1) from fun a ha hb => by
          by_cases e : a = k
          · subst e; rw [hbit] at hb; cases hb
          · exact Hin.out a (by omega) hb)
        clear hx hy hbit
        go_wp2_with fail
        go_quiet (fail)
        go_wp2_with fail
        go_roundw
        case rel => exact ⟨k + 1, by go_num, by omega, (by first | exact ⟨_, rfl⟩ | exact ⟨_, World.drewN_drewN ..⟩), R.out⟩
        case measure => simp [intOf]; omega
    · obtain rfl : k = x.length := by omega
      have R := Lib.hid (show decide (Sub s (agr x y)) = true from decide_eq_true ((agrOn_iff Hs.out).1 Hin.out))
      go_wp2
      go_ret
      exact ⟨congrArg (fun b => Ending.returned (.bool b)) R.out.symm, ⟨_, rfl⟩⟩
theorem agreeQ_b (x y : List Int) (h8 : x.length ≤ 8) (hxy : y.length = x.length) (s : Nat) (hs : s < 2 ^ x.length) (b : Bool) (hb : decide (Sub s (agr x y)) = b) (u v : Value) (w : World) (hu : Ints w u x) (hv : Ints w v y) :
    Calls Try.prog 86 #[u, v, .int .i64 s] w fun e w' => e = .returned (.bool b) ∧ ∃ n, w' = w.drewN n := by subst hb; exact agreeQ_any x y h8 hxy s hs u v w hu hv
/-- nothing is to be renamed for the rows i and j in column a -/
def ColQ (T : List (List Int)) (m : Nat) (d : DepN) (i j a : Nat) : Prop := AgreeOn T m d.1 i j → d.2.testBit a = true → cell T i a ≤ cell T j a
theorem kept_of_cols {l : List DepN} {T : List (List Int)} {k m : Nat} (h : ∀ d ∈ l, ∀ i, i < k → ∀ j, j < k → ∀ a, a < m → ColQ T m d i j a) : Kept l T k m := by
  intro d hd i j hi hj hag a ha hb
  have h1 := h d hd i hi j hj a ha hag hb
  have h2 := h d hd j hj i hi a ha (fun b q1 q2 => (hag b q1 q2).symm) hb
  omega
theorem Went.less {l : List DepN} {T0 T T' T'' : List (List Int)} {k m : Nat} {b : Bool} {D E : Prop} (h : Went l T0 k m T T' b D) (hi : Inv l T0 k m T'') (hs : tsum T'' < tsum T') : Went l T0 k m T T'' true E :=
  ⟨hi, .inr ⟨rfl, by
    rcases h.2 with ⟨-, e, -⟩ | ⟨-, h⟩
    · rw [← e]; exact hs
    · omega⟩⟩

set_option maxHeartbeats 4000000 in
set_option maxRecDepth 100000 in
theorem chaseR_any {m k : Nat} {l : List DepN} (hok : Okl m l) (q : List Nat) (hk : k = q.length) (hk1 : 1 ≤ k) (hk8 : k ≤ 8) (hq : ∀ p ∈ q, p < 2 ^ m) (v u : Value) (w : World) (hv : Deps w v (castD l)) (hu : Ints w u (castN q)) :
    Calls Try.prog 58 #[.int .i64 m, v, u] w fun e w' => ∃ v' T, e = .returned v' ∧ Rows w' v' T ∧ ChaseEnd l (initTo q m k) k m T ∧ Below w.heap.size w w' := by
  have hm8 := hok.h8
  have hlen := hok.h12
  have Hl := Lib.hid hok.hl
  have Hq := Lib.hid hq
  have Hk := Lib.hid hk
  have p256 := pow_small m hm8
  obtain ⟨a, b, off, cap, rfl, hle, ha, hcc⟩ := Deps.get hv
  obtain ⟨i0, hi, hz0, hz1, hz2⟩ := info_parts info3
  have Hi := Lib.hid hi
  have Hz0 := Lib.hid hz0
  have Hz1 := Lib.hid hz1
  have hby : i0.bytes * m ≤ 281474976710656 := by rw [hz2]; omega
  have Hby := Lib.hid hby
  clear hi hz0 hz1 hz2 hby
  have e0 : (castD l).length = l.length := by simp [castD]
  have hc' : ∀ i (h : i < l.length), w.cell? ⟨b, off + i * 2, none⟩ = some (.int .i64 ((l[i].1 : Nat) : Int)) ∧ w.cell? ⟨b, off + i * 2 + 1, none⟩ = some (.int .i64 ((l[i].2 : Nat) : Int)) := by
    intro i hi
    have := hcc i (by omega)
    simpa [castD] using this
  rw [e0] at hle ha
  have hix := run_ix (P := Try.prog) (t := 22) (a := a) (len := l.length) (cap := cap) (b := b) (off := off) (s := 2) Try.underlying22 (by intro w; kernel_rfl) ha
  have Hc := Lib.hid hc'
  obtain ⟨a2, b2, off2, cap2, rfl, hle2, ha2, hcc2⟩ := Ints.get hu
  have e1 := castN_length q
  have hc2 : ∀ i (h : i < q.length), w.cell? ⟨b2, off2 + i, none⟩ = some (.int .i64 ((q[i] : Nat) : Int)) := by
    intro i hi
    have := hcc2 i (by rw [e1]; exact hi)
    simpa [castN] using this
  rw [e1, ← hk] at hle2 ha2
  have hix2 := run_ix (P := Try.prog) (t := 56) (a := a2) (len := k) (cap := cap2) (b := b2) (off := off2) (s := 1) Try.underlying56 (by intro w; kernel_rfl) ha2
  have Hc2 := Lib.hid hc2
  rw [e0, e1, ← hk]
  clear ha hcc hv hc' ha2 hcc2 hc2 e0 e1 hu hk hq hok
  go_enter Try.func58, Try.ntmps58
  go_wp2_with fail
  go_loopw [7, 22] (fun o i wr => ∃ (j : Nat) (gs : List Nat) (oa : Option Addr) (oc : Nat), o = .slice oa j oc ∧ i = .int .i64 j ∧ j ≤ k ∧ Tab w.heap.size m wr (.slice oa j oc) gs (initTo q m j) ∧ Below w.heap.size w wr) (fun _ i _ => k - (intOf i).toNat)
  case atStart => exact ⟨0, [], none, 0, rfl, rfl, Nat.zero_le _, Tab.nil _ _ _, Below.refl _ _⟩
  case round =>
    obtain ⟨j, gs, oa, oc, rfl, rfl, hj, htab, hb⟩ := hrel
    have Htab := Lib.hid htab
    have Hb := Lib.hid hb
    clear htab hb
    by_cases hlt : j < k
    · have hj2 : j < q.length := by have := Hk.out; omega
      have hcell := Below.keep Hb.out (Hc2.out j hj2)
      have hqj := Hq.out _ (List.getElem_mem hj2)
      have hget : q.getD j 0 = q[j] := by simp [List.getD, hj2]
      have Hsucc := Lib.hid (initTo_succ q m j)
      rw [hget] at Hsucc
      clear hget
      generalize q[j] = p at *
      have hp256 : p < 256 := by omega
      go_wp2_with (refine wpList_make_full _ rfl (.tmp 27) (.tmp 27) 56 rfl wr.heap.size 3 i0 (.int .i64 0) 1 Try.underlying56 Hi.out Hz0.out Hz1.out .i64 .i64 _ _ m rfl rfl rfl rfl Hby.out (by unfold maxLen; omega) (Nat.le_refl _) ?_; intro w2 hown hg)
      have hrow : OutRow w2 wr.heap.size wr.heap.size m p ((j : Int) + 1) 0 := by
        unfold OutRow
        rw [outTo_zero]
        have e : (madeCells (Value.int IntKind.i64 0).cells (m * 1)).toList = List.replicate m (Value.int .i64 0) := by rw [Nat.mul_one]; exact toList_madeCells_one _ _
        rw [e] at hown
        rw [List.map_replicate]
        exact hown
      have hb2 : Below wr.heap.size wr w2 := (Below.refl _ _).grown hg (Nat.le_refl _) (fun k hk => by cases hk)
      have Hrow := Lib.hid hrow
      have Hb2 := Lib.hid hb2
      clear hrow hb2 hown hg hcell
      go_wp2_with fail
      obtain ⟨wo, hwo⟩ : ∃ wo : World, wo = wr := ⟨_, rfl⟩
      subst hwo
      have qw : IntKind.i64.wrap ((j : Int) + 1) = (j : Int) + 1 := IntWalk.i64_in _ ⟨by omega, by omega⟩
      go_loopw [30] (fun i wz => ∃ a : Nat, i = .int .i64 a ∧ a ≤ m ∧ Below wo.heap.size wo wz ∧ OutRow wz wo.heap.size wo.heap.size m p ((j : Int) + 1) a) (fun i _ => m - (intOf i).toNat)
      case atStart => exact ⟨0, rfl, Nat.zero_le _, Hb2.out, Hrow.out⟩
      case round =>
        obtain ⟨a, rfl, ha, hbz, hownz⟩ := hrel
        have Hbz := Lib.hid hbz
        have Hown := Lib.hid hownz
        clear hbz hownz
        by_cases hlt2 : a < m
        · have t1 := shr_bit p a hp256
          have hfz := World.ownsRow.frozenAt Hown.out a
          have hcell := World.ownsRow.cellAt Hown.out a (by omega)
          rw [List.getElem?_map, List.getElem?_eq_getElem (by simp [outTo]; omega), Option.map_some] at hcell
          cases hbit : p.testBit a with
          | true =>
            have HR := Lib.hid (show OutRow wr wo.heap.size wo.heap.size m p ((j : Int) + 1) (a + 1) by unfold OutRow; rw [outTo_skip _ m hbit]; exact Hown.out)
            rw [hbit] at t1
            simp only [if_true] at t1
            go_wp2_with fail
            go_roundw
            case rel => exact ⟨a + 1, by go_num, by omega, Hbz.out, HR.out⟩
            case measure => simp [intOf]; omega
          | false =>
            have hst := (World.ownsRow.stored Hown.out a (.int .i64 ((j : Int) + 1)))
            have HR := Lib.hid (show OutRow (wr.setCell ⟨wo.heap.size, a, none⟩ (.int .i64 ((j : Int) + 1))) wo.heap.size wo.heap.size m p ((j : Int) + 1) (a + 1) by unfold OutRow; rw [outTo_set _ m hbit, List.map_set]; exact hst.1)
            rw [hbit] at t1
            clear hst
            simp only [Bool.false_eq_true, if_false] at t1
            go_wp2_with fail
            go_roundw
            case rel => exact ⟨a + 1, by go_num, by omega, Hbz.out.setCell (Nat.le_refl _) _, HR.out⟩
            case measure => simp [intOf]; omega
        · obtain rfl : a = m := by omega
          have Htab2 := Lib.hid (Htab.out.keep Hbz.out)
          have Hb3 := Lib.hid (Below.tr Hb.out Hbz.out)
          have Hown2 := Lib.hid (show wr.ownsRow w.heap.size 56 1 (.slice oa j oc) j (gs.map (rowV a)) by have := Htab2.out.2.2.1; rwa [initTo_length] at this)
          have Hgs := Lib.hid (show ∀ g ∈ gs, g ≠ wo.heap.size from fun g hg e => by have := (Htab.out.lt g hg).2; omega)
          have Hrow2 := Lib.hid (show wr.ownsRow wo.heap.size 3 1 (rowV a wo.heap.size) a ((outRow p ((j + 1 : Nat) : Int) a).map (Value.int .i64)) by
            have := Hown.out
            unfold OutRow at this
            rw [outTo_full] at this
            exact this)
          go_wp2_with (at_builtin; go_loud (refine append_own rfl (.tmp 44) (.tmp 46) 34 rfl elem34 rfl (World.ownsRow.alloc Hown2.out _) [rowV a wo.heap.size] rfl rfl (by intro j u hj; unfold rowV at hj; go_simp) (by intro u hu; simp at hu; subst hu; rfl) (by omega) (by have := Hb3.out.size; simp; omega) ?_))
          intro v' w6 hown6 hb6 hg6
          have HT6 := Lib.hid (show Tab w.heap.size a w6 v' (gs ++ [wo.heap.size]) (initTo q a (j + 1)) by
            rw [Hsucc.out]
            refine Tab.append (n := j + 1) (Htab2.out.keep (below_alloc _ _)) Hgs.out (outRow_length _ _ _) ?_ (by rw [initTo_length]) hown6 hg6
            exact World.ownsRow.alloc (owns_base Hrow2.out Hb.out.size) _)
          have HB6 := Lib.hid ((Hb3.out.alloc Hb3.out.size _).trans hb6)
          obtain ⟨na, nc, rfl⟩ := ownRow_slice hown6
          clear hown6 hb6 hg6
          go_wp2_with fail
          go_roundw
          case rel => exact ⟨j + 1, _, _, _, rfl, by go_num, by omega, HT6.out, HB6.out⟩
          case measure => simp [intOf]; omega
    · obtain rfl : j = k := by omega
      clear hlt
      obtain ⟨ob, oc', ho⟩ := Htab.out.head (by rw [initTo_length]; omega)
      rw [initTo_length] at ho
      injection ho with h1 h2 h3
      subst h1 h3
      have Hob := Lib.hid Htab.out.ob_notin
      have Hbg := Lib.hid (show ∀ g ∈ gs, w.heap.size ≤ g from fun g hg => (Htab.out.lt g hg).1)
      have Hinit := Lib.hid (init_inv l q m j)
      clear h2
      go_wp2_with fail
      obtain ⟨w3, hw3⟩ : ∃ w3 : World, w3 = wr := ⟨_, rfl⟩
      subst hw3
      generalize hT0 : initTo q m j = T0 at *
      have HT0 := Lib.hid hT0
      clear hT0
      go_loopw [12] (fun f wr => ∃ (fb : Bool) (T : List (List Int)), f = .bool fb ∧ Tab w.heap.size m wr (.slice (some ⟨ob, 0, none⟩) j oc) gs T ∧ Only gs w3 wr ∧ Inv l T0 j m T ∧ (fb = false → Kept l T j m)) (fun f wr => 2 * tsumAt wr (.slice (some ⟨ob, 0, none⟩) j oc) + bit f)
      case atStart => exact ⟨true, T0, rfl, Htab.out, Only.refl _ _, Hinit.out, by simp⟩
      case round =>
        obtain ⟨fb, T, rfl, htab2, honly2, hinv, hkept⟩ := hrel
        have Htab2 := Lib.hid htab2
        have Honly2 := Lib.hid honly2
        have Hinv := Lib.hid hinv
        have Hkept := Lib.hid hkept
        have Hsum := Lib.hid (tsumAt_eq htab2.rows)
        clear htab2 honly2 hinv hkept
        cases fb with
        | false =>
          have Hrows := Lib.hid Htab2.out.rows
          have Hend := Lib.hid (Hkept.out rfl)
          have HB := Lib.hid (Hb.out.trans (Honly2.out.below Hb.out.size Hbg.out))
          go_wp2_with fail
          go_ret
          exact ⟨_, rfl, T, Hrows.out, by rw [HT0.out]; exact ⟨Hinv.out, Hend.out⟩, HB.out⟩
        | true =>
          go_wp2_with fail
          obtain ⟨wo, hwo⟩ : ∃ wo : World, wo = wr := ⟨_, rfl⟩
          subst hwo
          go_loopw [12, 52] (fun f i wr => ∃ (fb : Bool) (ii : Nat) (T' : List (List Int)), f = .bool fb ∧ i = .int .i64 ii ∧ ii ≤ l.length ∧ Tab w.heap.size m wr (.slice (some ⟨ob, 0, none⟩) j oc) gs T' ∧ Only gs w3 wr ∧ Went l T0 j m T T' fb (∀ n, n < ii → ∀ d, l[n]? = some d → ∀ i, i < j → ∀ y, y < j → ∀ a, a < m → ColQ T m d i y a)) (fun _ i _ => l.length - (intOf i).toNat)
          case atStart => exact ⟨false, 0, T, rfl, rfl, Nat.zero_le _, Htab2.out, Honly2.out, Hinv.out, .inl ⟨rfl, rfl, fun n hn => by omega⟩⟩
          case round =>
            obtain ⟨fb, ii, T2, rfl, rfl, hii, htab3, honly3, hwent⟩ := hrel
            have Htab3 := Lib.hid htab3
            have Honly3 := Lib.hid honly3
            have Hwent := Lib.hid hwent
            clear htab3 honly3 hwent
            by_cases hlt : ii < l.length
            · have Hb3 := Lib.hid (Hb.out.trans (Honly3.out.below Hb.out.size Hbg.out))
              have hc1 := Below.keep Hb3.out (Hc.out ii hlt).1
              have hc2 := Below.keep Hb3.out (Hc.out ii hlt).2
              have hld := Hl.out _ (List.getElem_mem hlt)
              have Hmem := Lib.hid (List.getElem_mem hlt)
              have Hget := Lib.hid (List.getElem?_eq_getElem hlt)
              generalize l[ii] = d at *
              have hd1 : d.1 < 256 := by omega
              have hd2 : d.2 < 256 := by omega
              have Hld := Lib.hid hld
              clear hld
              have C0 := Lib.hid (cell_new wr #[.int .i64 (d.1 : Nat), .int .i64 (d.2 : Nat)] 24 0)
              have C1 := Lib.hid (cell_new wr #[.int .i64 (d.1 : Nat), .int .i64 (d.2 : Nat)] 24 1)
              have Hgw := Lib.hid (show wr.heap.size ∉ gs from fun h => by have := (Htab3.out.lt _ h).2; omega)
              have Htab4 := Lib.hid (Htab3.out.keep (below_alloc wr (.cells #[.int .i64 (d.1 : Nat), .int .i64 (d.2 : Nat)] 24)))
              have Ho4 := Lib.hid (Honly3.out.trans (Only.of_below (below_alloc wr (.cells #[.int .i64 (d.1 : Nat), .int .i64 (d.2 : Nat)] 24))))
              go_wp2_with fail
              generalize hw5 : wr.alloc (.cells #[.int .i64 (d.1 : Nat), .int .i64 (d.2 : Nat)] 24) = w5 at *
              clear hw5 hc1 hc2
              generalize wr.heap.size = B at *
              go_loopw [12, 58] (fun f i wr => ∃ (fb : Bool) (xi : Nat) (T' : List (List Int)), f = .bool fb ∧ i = .int .i64 xi ∧ xi ≤ j ∧ Tab w.heap.size m wr (.slice (some ⟨ob, 0, none⟩) j oc) gs T' ∧ Only gs w5 wr ∧ Went l T0 j m T T' fb ((∀ n, n < ii → ∀ d, l[n]? = some d → ∀ i, i < j → ∀ y, y < j → ∀ a, a < m → ColQ T m d i y a) ∧ ∀ i, i < xi → ∀ y, y < j → ∀ a, a < m → ColQ T m d i y a)) (fun _ i _ => j - (intOf i).toNat)
              case atStart => exact ⟨fb, 0, T2, rfl, rfl, Nat.zero_le _, Htab4.out, Only.refl _ _, Hwent.out.imp fun _ h => ⟨h, fun n hn => by omega⟩⟩
              case round =>
                obtain ⟨fb, xi, T2, rfl, rfl, hxi, htab5, honly5, hwent⟩ := hrel
                have Htab5 := Lib.hid htab5
                have Honly5 := Lib.hid honly5
                have Hwent := Lib.hid hwent
                clear htab5 honly5 hwent
                by_cases hltx : xi < j
                · have gx : xi < gs.length := by have h1 := Htab5.out.1; have h2 := Hwent.out.1.1.1; omega
                  have cx := Htab5.out.cellAt xi (by have h2 := Hwent.out.1.1.1; omega) gx
                  have Hgx := Lib.hid (List.getElem_mem gx)
                  have Hgxe := Lib.hid (List.getElem?_eq_getElem gx)
                  unfold rowV at cx
                  generalize gs[xi] = g1 at *
                  clear gx
                  go_wp2_with fail
                  obtain ⟨w6, hw6⟩ : ∃ w6 : World, w6 = wr := ⟨_, rfl⟩
                  subst hw6
                  go_loopw [12, 64] (fun f i wr => ∃ (fb : Bool) (yi : Nat) (T' : List (List Int)), f = .bool fb ∧ i = .int .i64 yi ∧ yi ≤ j ∧ Tab w.heap.size m wr (.slice (some ⟨ob, 0, none⟩) j oc) gs T' ∧ Only gs w5 wr ∧ Went l T0 j m T T' fb (((∀ n, n < ii → ∀ d, l[n]? = some d → ∀ i, i < j → ∀ y, y < j → ∀ a, a < m → ColQ T m d i y a) ∧ ∀ i, i < xi → ∀ y, y < j → ∀ a, a < m → ColQ T m d i y a) ∧ ∀ y, y < yi → ∀ a, a < m → ColQ T m d xi y a)) (fun _ i _ => j - (intOf i).toNat)
                  case atStart => exact ⟨fb, 0, T2, rfl, rfl, Nat.zero_le _, Htab5.out, Honly5.out, Hwent.out.imp fun _ h => ⟨h, fun n hn => by omega⟩⟩
                  case round =>
                    obtain ⟨fb, yi, T2, rfl, rfl, hyi, htab6, honly6, hwent⟩ := hrel
                    have Htab6 := Lib.hid htab6
                    have Honly6 := Lib.hid honly6
                    have Hwent := Lib.hid hwent
                    clear htab6 honly6 hwent
                    by_cases hlty : yi < j
                    · have gy : yi < gs.length := by have h1 := Htab6.out.1; have h2 := Hwent.out.1.1.1; omega
                      have cy := Htab6.out.cellAt yi (by have h2 := Hwent.out.1.1.1; omega) gy
                      have Hgy := Lib.hid (List.getElem_mem gy)
                      have Hgye := Lib.hid (List.getElem?_eq_getElem gy)
                      unfold rowV at cy
                      generalize gs[yi] = g2 at *
                      clear gy
                      go_wp2_with fail
                      obtain ⟨w7, hw7⟩ : ∃ w7 : World, w7 = wr := ⟨_, rfl⟩
                      subst hw7
                      go_loopw [12, 69] (fun f i wr => ∃ (fb : Bool) (aa : Nat) (T' : List (List Int)), f = .bool fb ∧ i = .int .i64 aa ∧ aa ≤ m ∧ Tab w.heap.size m wr (.slice (some ⟨ob, 0, none⟩) j oc) gs T' ∧ Only gs w5 wr ∧ Went l T0 j m T T' fb ((((∀ n, n < ii → ∀ d, l[n]? = some d → ∀ i, i < j → ∀ y, y < j → ∀ a, a < m → ColQ T m d i y a) ∧ ∀ i, i < xi → ∀ y, y < j → ∀ a, a < m → ColQ T m d i y a) ∧ ∀ y, y < yi → ∀ a, a < m → ColQ T m d xi y a) ∧ ∀ a, a < aa → ColQ T m d xi yi a)) (fun _ i _ => m - (intOf i).toNat)
                      case atStart => exact ⟨fb, 0, T2, rfl, rfl, Nat.zero_le _, Htab6.out, Honly6.out, Hwent.out.imp fun _ h => ⟨h, fun n hn => by omega⟩⟩
                      case round =>
                        obtain ⟨fb, aa, T2, rfl, rfl, haa, htab7, honly7, hwent⟩ := hrel
                        have Htab7 := Lib.hid htab7
                        have Honly7 := Lib.hid honly7
                        have Hwent := Lib.hid hwent
                        clear htab7 honly7 hwent
                        by_cases hlta : aa < m
                        · have hsh : Shape T2 j m := Hwent.out.1.1
                          have qx : xi < T2.length := by rw [hsh.1]; exact hltx
                          have qy : yi < T2.length := by rw [hsh.1]; exact hlty
                          have gx : xi < gs.length := by rw [Htab7.out.1]; exact qx
                          have gy : yi < gs.length := by rw [Htab7.out.1]; exact qy
                          have ex : gs[xi] = g1 := Option.some.inj ((List.getElem?_eq_getElem gx).symm.trans Hgxe.out)
                          have ey : gs[yi] = g2 := Option.some.inj ((List.getElem?_eq_getElem gy).symm.trans Hgye.out)
                          have HIx := Lib.hid (Htab7.out.ints xi qx gx)
                          have HIy := Lib.hid (Htab7.out.ints yi qy gy)
                          have nx := (Htab7.out.numAt xi qx gx aa hlta).1
                          have ny := (Htab7.out.numAt yi qy gy aa hlta).1
                          have erx : row T2 xi = T2[xi] := by unfold row; simp [List.getD, qx]
                          have ery : row T2 yi = T2[yi] := by unfold row; simp [List.getD, qy]
                          have lx : T2[xi].length = m := by rw [← erx]; exact hsh.2 xi hltx
                          have ly : T2[yi].length = m := by rw [← ery]; exact hsh.2 yi hlty
                          have cex : T2[xi].getD aa 0 = cell T2 xi aa := by unfold cell; rw [erx]
                          have cey : T2[yi].getD aa 0 = cell T2 yi aa := by unfold cell; rw [ery]
                          have Hag := Lib.hid (agree_iff (s := d.1) hsh (i := xi) (j := yi) hltx Hld.out.1)
                          rw [erx, ery] at Hag
                          rw [ex, cex] at nx
                          rw [ey, cey] at ny
                          rw [ex] at HIx
                          rw [ey] at HIy
                          unfold rowV at HIx HIy
                          have Nx := Lib.hid nx
                          have Ny := Lib.hid ny
                          have D0 := Lib.hid (show wr.cell? ⟨B, 0, none⟩ = some (.int .i64 (d.1 : Nat)) from Honly7.out.cell Hgw.out C0.out)
                          have D1 := Lib.hid (show wr.cell? ⟨B, 1, none⟩ = some (.int .i64 (d.2 : Nat)) from Honly7.out.cell Hgw.out C1.out)
                          have t1 := shr_bit d.2 aa hd2
                          have hc1 : ((1 : Nat) : Int) = 1 := rfl
                          have hc0 : ((0 : Nat) : Int) = 0 := rfl
                          have hixx := run_ix (P := Try.prog) (t := 56) (a := some ⟨g1, 0, none⟩) (len := m) (cap := m) (b := g1) (off := 0) (s := 1) Try.underlying56 (by intro w; kernel_rfl) (fun _ => rfl)
                          have hixy := run_ix (P := Try.prog) (t := 56) (a := some ⟨g2, 0, none⟩) (len := m) (cap := m) (b := g2) (off := 0) (s := 1) Try.underlying56 (by intro w; kernel_rfl) (fun _ => rfl)
                          have ha1 : (0 : Int) ≤ (aa : Int) := by omega
                          have ha2 : (aa : Int) < (m : Int) := by omega
                          have Hrow := Lib.hid hsh.1.symm
                          have Hlx := Lib.hid lx
                          have Hly := Lib.hid ly
                          clear hsh ex ey erx ery lx ly cex cey nx ny
                          generalize hxv : cell T2 xi aa = xv at *
                          generalize hyv : cell T2 yi aa = yv at *
                          have Hxv := Lib.hid hxv
                          have Hyv := Lib.hid hyv
                          clear hxv hyv
                          by_cases hA : AgreeOn T2 m d.1 xi yi
                          · have HA := Lib.hid (decide_eq_true (Hag.out.2 hA))
                            by_cases hbit : d.2.testBit aa = true
                            · rw [if_pos hbit, hc1] at t1; clear hc0 hc1
                              by_cases hgt : yv < xv
                              · have HhA := Lib.hid hA
                                have Hbit := Lib.hid hbit
                                clear hA hbit
                                go_wp2_with fail
                                have c0 := D0.out
                                have c1 := D1.out
                                have nx := Nx.out
                                have ny := Ny.out
                                go_quiet (first | (go_at_call 86; exact Calls.quiet_of (agreeQ_b T2[xi] T2[yi] (by rw [Hlx.out]; exact hm8) (by rw [Hly.out, Hlx.out]) d.1 (by rw [Hlx.out]; exact Hld.out.1) true HA.out _ _ _ (Ints.keep HIx.out (bdrewN (Below.refl _ _) _)) (Ints.keep HIy.out (bdrewN (Below.refl _ _) _)))))
                                have Hb8 := Lib.hid (bdrewN (Below.refl wr.heap.size wr) nq)
                                clear c0 c1 nx ny
                                generalize wr.drewN nq = w8 at *
                                go_wp2_with fail
                                have nx8 := Below.keep Hb8.out Nx.out
                                have ny8 := Below.keep Hb8.out Ny.out
                                go_still_tail 10, (by kernel_rfl)
                                change wpList _ _ _ _ _ w8.drew
                                have Htab8 := Lib.hid (show Tab w.heap.size m w8.drew (.slice (some ⟨ob, 0, none⟩) j oc) gs T2 from (Htab7.out.keep Hb8.out).keep (Below.refl _ _).drew)
                                have Honly8 := Lib.hid ((Honly7.out.trans (Only.of_below Hb8.out)).trans (Only.of_below (Below.refl w8.heap.size w8).drew))
                                generalize w8.drew = w9 at *
                                go_wp2_with fail
                                refine (rename_any w.heap.size m ob j oc gs T2 w9 Htab8.out Hrow.out aa hlta hk8 xv yv).mono ?_
                                rintro e w10 ⟨rfl, htab10, ho10⟩
                                have Htab10 := Lib.hid htab10
                                have Ho10 := Lib.hid (Honly8.out.trans ho10)
                                have R := Lib.hid (show Inv l T0 j m (T2.map (ren aa xv yv)) ∧ tsum (T2.map (ren aa xv yv)) < tsum T2 by
                                  have hne : cell T2 xi aa ≠ cell T2 yi aa := by rw [Hxv.out, Hyv.out]; omega
                                  have := step_all Hwent.out.1 Hmem.out hltx hlty HhA.out hlta Hbit.out hne
                                  rw [Hxv.out, Hyv.out, Int.max_eq_left (by omega), Int.min_eq_right (by omega)] at this
                                  exact this)
                                clear htab10 ho10
                                go_wp2_with fail
                                go_roundw
                                case rel => exact ⟨true, aa + 1, _, rfl, by go_num, by omega, Htab10.out, Ho10.out, Hwent.out.less R.out.1 R.out.2⟩
                                case measure => simp [intOf]; omega
                              · have Hle := Lib.hid (show xv ≤ yv by omega)
                                clear hA hbit
                                go_wp2_with fail
                                have c0 := D0.out
                                have c1 := D1.out
                                have nx := Nx.out
                                have ny := Ny.out
                                go_quiet (first | (go_at_call 86; exact Calls.quiet_of (agreeQ_b T2[xi] T2[yi] (by rw [Hlx.out]; exact hm8) (by rw [Hly.out, Hlx.out]) d.1 (by rw [Hlx.out]; exact Hld.out.1) true HA.out _ _ _ (Ints.keep HIx.out (bdrewN (Below.refl _ _) _)) (Ints.keep HIy.out (bdrewN (Below.refl _ _) _)))))
                                have Hb8 := Lib.hid (bdrewN (Below.refl wr.heap.size wr) nq)
                                clear c0 c1 nx ny
                                generalize wr.drewN nq = w8 at *
                                have R := Lib.hid (show ∀ a, a < aa + 1 → T2 = T → ColQ T m d xi yi a ∨ a < aa from fun a h e => by
                                  rcases Nat.lt_succ_iff_lt_or_eq.1 h with h | rfl
                                  · exact .inr h
                                  · left; rw [← e]; intro q1 q2; rw [Hxv.out, Hyv.out]; exact Hle.out)
                                go_wp2_with fail
                                go_roundw
                                case rel => exact ⟨fb, aa + 1, T2, rfl, by go_num, by omega, Htab7.out.keep Hb8.out, Honly7.out.trans (Only.of_below Hb8.out), Hwent.out.imp fun e h => ⟨h.1, fun a ha => (R.out a ha e).elim id (h.2 a)⟩⟩
                                case measure => simp [intOf]; omega
                            · rw [if_neg hbit, hc0] at t1; clear hc0 hc1
                              have Hbit := Lib.hid hbit
                              clear hA hbit
                              go_wp2_with fail
                              have c0 := D0.out
                              have c1 := D1.out
                              have nx := Nx.out
                              have ny := Ny.out
                              go_quiet (first | (go_at_call 86; exact Calls.quiet_of (agreeQ_b T2[xi] T2[yi] (by rw [Hlx.out]; exact hm8) (by rw [Hly.out, Hlx.out]) d.1 (by rw [Hlx.out]; exact Hld.out.1) true HA.out _ _ _ (Ints.keep HIx.out (bdrewN (Below.refl _ _) _)) (Ints.keep HIy.out (bdrewN (Below.refl _ _) _)))))
                              have Hb8 := Lib.hid (bdrewN (Below.refl wr.heap.size wr) nq)
                              clear c0 c1 nx ny
                              generalize wr.drewN nq = w8 at *
                              have R := Lib.hid (show ∀ a, a < aa + 1 → T2 = T → ColQ T m d xi yi a ∨ a < aa from fun a h e => by
                                rcases Nat.lt_succ_iff_lt_or_eq.1 h with h | rfl
                                · exact .inr h
                                · left; rw [← e]; intro q1 q2; exact absurd q2 Hbit.out)
                              go_wp2_with fail
                              go_roundw
                              case rel => exact ⟨fb, aa + 1, T2, rfl, by go_num, by omega, Htab7.out.keep Hb8.out, Honly7.out.trans (Only.of_below Hb8.out), Hwent.out.imp fun e h => ⟨h.1, fun a ha => (R.out a ha e).elim id (h.2 a)⟩⟩
                              case measure => simp [intOf]; omega
                          · have HA := Lib.hid (decide_eq_false (fun h => hA (Hag.out.1 h)))
                            have HhA := Lib.hid hA
                            clear hA
                            go_wp2_with fail
                            have c0 := D0.out
                            have c1 := D1.out
                            have nx := Nx.out
                            have ny := Ny.out
                            go_quiet (first | (go_at_call 86; exact Calls.quiet_of (agreeQ_b T2[xi] T2[yi] (by rw [Hlx.out]; exact hm8) (by rw [Hly.out, Hlx.out]) d.1 (by rw [Hlx.out]; exact Hld.out.1) false HA.out _ _ _ (Ints.keep HIx.out (bdrewN (Below.refl _ _) _)) (Ints.keep HIy.out (bdrewN (Below.refl _ _) _)))))
                            have Hb8 := Lib.hid (bdrewN (Below.refl wr.heap.size wr) nq)
                            clear c0 c1 nx ny
                            generalize wr.drewN nq = w8 at *
                            have R := Lib.hid (show ∀ a, a < aa + 1 → T2 = T → ColQ T m d xi yi a ∨ a < aa from fun a h e => by
                              rcases Nat.lt_succ_iff_lt_or_eq.1 h with h | rfl
                              · exact .inr h
                              · left; rw [← e]; intro q1 q2; exact absurd q1 HhA.out)
                            go_wp2_with fail
                            go_roundw
                            case rel => exact ⟨fb, aa + 1, T2, rfl, by go_num, by omega, Htab7.out.keep Hb8.out, Honly7.out.trans (Only.of_below Hb8.out), Hwent.out.imp fun e h => ⟨h.1, fun a ha => (R.out a ha e).elim id (h.2 a)⟩⟩
                            case measure => simp [intOf]; omega
                        · obtain rfl : aa = m := by omega
                          go_wp2_with fail
                          go_roundw
                          case rel => exact ⟨fb, yi + 1, T2, rfl, by go_num, by omega, Htab7.out, Honly7.out, Hwent.out.imp fun _ h => ⟨h.1.1, fun y hy => by
                            rcases Nat.lt_succ_iff_lt_or_eq.1 hy with hy | rfl
                            · exact h.1.2 y hy
                            · exact h.2⟩⟩
                          case measure => simp [intOf]; omega
                    · obtain rfl : yi = j := by omega
                      go_wp2_with fail
                      go_roundw
                      case rel => exact ⟨fb, xi + 1, T2, rfl, by go_num, by omega, Htab6.out, Honly6.out, Hwent.out.imp fun _ h => ⟨h.1.1, fun y hy => by
                        rcases Nat.lt_succ_iff_lt_or_eq.1 hy with hy | rfl
                        · exact h.1.2 y hy
                        · exact h.2⟩⟩
                      case measure => simp [intOf]; omega
                · obtain rfl : xi = j := by omega
                  go_wp2_with fail
                  go_roundw
                  case rel => exact ⟨fb, ii + 1, T2, rfl, by go_num, by omega, Htab5.out, Ho4.out.trans Honly5.out, Hwent.out.imp fun _ h n hn d' hd' => by
                    rcases Nat.lt_succ_iff_lt_or_eq.1 hn with hn | rfl
                    · exact h.1 n hn d' hd'
                    · have := Hget.out
                      rw [this] at hd'
                      cases hd'
                      exact h.2⟩
                  case measure => simp [intOf]; omega
            · obtain rfl : ii = l.length := by omega
              have Hk2 := Lib.hid (show fb = false → Kept l T2 j m from fun e => by
                rcases Hwent.out.2 with ⟨-, e2, h⟩ | ⟨h, -⟩
                · rw [e2]
                  refine kept_of_cols fun d hd => ?_
                  obtain ⟨n, hn, rfl⟩ := List.mem_iff_getElem.1 hd
                  exact h n hn _ (List.getElem?_eq_getElem hn)
                · rw [e] at h; cases h)
              have Hs2 := Lib.hid (tsumAt_eq Htab3.out.rows)
              have Hlt2 := Lib.hid (show 2 * tsum T2 + bit (.bool fb) < 2 * tsum T + bit (.bool true) by
                rcases Hwent.out.2 with ⟨h1, h2, -⟩ | ⟨h1, h2⟩
                · rw [h1, h2]; show _ + 0 < _ + 1; omega
                · rw [h1]; omega)
              go_wp2_with fail
              go_roundw
              case rel => exact ⟨fb, T2, rfl, Htab3.out, Honly3.out, Hwent.out.1, Hk2.out⟩
              case measure => have h1 := Hsum.out; have h2 := Hs2.out; rw [h1, h2]; exact Hlt2.out
end Go.Proofs.Ytnidalbfmicoiaa

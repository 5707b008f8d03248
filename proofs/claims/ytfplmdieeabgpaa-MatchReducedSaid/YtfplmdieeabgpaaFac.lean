/- Contract of (values).fact. -/
import Derived.Test.YtfplmdieeabgpaaNum
import Derived.Deep.RegionLaw
import Derived.Laws.Rows
import Derived.OwnWalk
namespace Go.Proofs.Ytfplmdieeabgpaa
open Go.RowKit
/-- a load of a whole block, as one step of a region that draws -/
theorem step_load_row {P : Program} {ops : Array Oper} {o : Oper} {a : Act} {w : World} {K : Act → World → Prop} {Q : Exit → Act → World → Prop} {E : Prop} (hgd : o.guard = none) (ty : TypeId) (x : Operand) (ho : o.op = .load ty x)
    (g : Nat) (hx : a.eval x = .pointer (some ⟨g, 0, none⟩)) (t : TypeId) (cs : Array Value) (fr : Nat × Nat) (d : TypeDesc) (hg : w.heap[g]? = some (.cells cs t fr))
    (hu : P.underlying ty = some d) (hd : (match d with | .struct _ | .array _ _ => true | _ => false) = true) (hi : (P.info? ty).map (·.size) = some cs.size)
    (h : K (a.put o.dst (.agg cs)) w) : if Region.wanted o (yielded ops a.tmps) = true then Oper.wp P o a w K Q else E := by
  rw [if_pos (show Region.wanted o (yielded ops a.tmps) = true by simp [Region.wanted, hgd])]
  exact wp_load_row ty x ho g hx t cs fr d hg hu hd hi h
theorem undVals : Try.prog.underlying 95 = some (.array 8 3) := by kernel_rfl
theorem sizeVals : (Try.prog.info? 95).map (·.size) = some 8 := by kernel_rfl
/-- what the walk of fact keeps -/
structure Fk (w wr : World) (A : Array Value) (r : Int) (o : Value) (xs : List Int) : Prop where
  b : Below w.heap.size w wr
  hv : wr.heap[w.heap.size]? = some (.cells A 95 (0, 0))
  hr : wr.heap[w.heap.size + 2]? = some (.cells #[.int .i64 0, .slice none 0 0] 77 (0, 0))
  hf : wr.heap[w.heap.size + 3]? = some (.cells #[.int .i64 r, o] 77 (0, 0))
  own : OwnInts (w.heap.size + 4) wr o xs
theorem blk_keep {w w' : World} {b : Nat} {o : Obj} (h : w.heap[b]? = some o) (hb : Below w.heap.size w w') : w'.heap[b]? = some o := (hb.block b (Array.getElem?_eq_some_iff.1 h).1).trans h
theorem Fk.keep {w wr w' : World} {A : Array Value} {r : Int} {o : Value} {xs : List Int} (k : Fk w wr A r o xs) (hb : Below wr.heap.size wr w') : Fk w w' A r o xs :=
  ⟨Below.tr k.b hb, blk_keep k.hv hb, blk_keep k.hr hb, blk_keep k.hf hb, k.own.keep hb⟩
theorem Fk.c1 {w wr : World} {A : Array Value} {r : Int} {o : Value} {xs : List Int} (k : Fk w wr A r o xs) : wr.cell? ⟨w.heap.size + 3, 1, none⟩ = some o := by rw [cell_of_row wr _ 1 _ _ _ k.hf]; rfl
theorem Fk.c0 {w wr : World} {A : Array Value} {r : Int} {o : Value} {xs : List Int} (k : Fk w wr A r o xs) : wr.cell? ⟨w.heap.size + 3, 0, none⟩ = some (.int .i64 r) := by rw [cell_of_row wr _ 0 _ _ _ k.hf]; rfl
/-- behind the append -/
theorem Fk.put {w wr w' : World} {A : Array Value} {r : Int} {o o' : Value} {xs ys : List Int} (k : Fk w wr A r o xs) (hb : Below (w.heap.size + 4) wr w') (ho : OwnInts (w.heap.size + 4) w' o' ys) : Fk w (w'.setCell ⟨w.heap.size + 3, 1, none⟩ o') A r o' ys := by
  have hf' := (hb.block _ (by omega)).trans k.hf
  refine ⟨(k.b.trans (hb.mono (by omega))).setCell (by simp) _, ?_, ?_, ?_, ownsRow_setCell_below ho (by simp) _⟩
  · exact (heap_setCell_other w' ⟨w.heap.size + 3, 1, none⟩ _ _ (by simp)).trans ((hb.block _ (by omega)).trans k.hv)
  · exact (heap_setCell_other w' ⟨w.heap.size + 3, 1, none⟩ _ _ (by simp)).trans ((hb.block _ (by omega)).trans k.hr)
  · rw [heap_setCell_same w' _ 1 _ _ o' hf']; rfl
set_option maxRecDepth 100000 in
set_option maxHeartbeats 16000000 in
theorem fact_any (v : List Int) (hv8 : v.length = 8) (r : Int) (l : List Int) (hl : l.length ≤ 1000) (hk : ∀ i, i < l.length → -9 ≤ l.getD i 0 ∧ l.getD i 0 ≤ 7) (u : Value) (w : World) (hu : Ints w u l) :
    Calls Try.prog 117 #[.agg (vrow v), .agg #[.int .i64 r, u]] w fun e w' => ∃ u', e = .returned (.agg #[.int .i64 r, u']) ∧ OwnInts w.heap.size w' u' (l.map (numOf v)) ∧ Below w.heap.size w w' := by
  obtain ⟨a, b, off, cap, rfl, hle, ha, hc⟩ := Ints.get hu
  have Hix := Lib.hid (run_ix (P := Try.prog) (t := 22) (a := a) (len := l.length) (cap := cap) (b := b) (off := off) (s := 1) Try.underlying22 (by intro w; kernel_rfl) ha)
  simp only [Nat.mul_one] at Hix
  have Hc := Lib.hid hc
  have Hk := Lib.hid hk
  have HN := Lib.hid (fun t ht w => numberOf_any v hv8 t ht w)
  have hS : (Try.prog.info? 95).map (·.size) = some (vrow v).size := by rw [vrow_size, hv8]; exact sizeVals
  obtain ⟨A, hA⟩ : ∃ A, A = vrow v := ⟨_, rfl⟩
  rw [← hA] at HN hS ⊢
  have HS := Lib.hid hS
  obtain ⟨w0, hw0⟩ : ∃ w0, w0 = ((w.alloc (.cells A 95)).alloc (.cells #[.int .i64 r, .slice a l.length cap] 88)).alloc (.cells #[.int .i64 0, .slice none 0 0] 77) := ⟨_, rfl⟩
  have hz0 : w0.heap.size = w.heap.size + 3 := by rw [hw0]; simp
  obtain ⟨w1, hw1⟩ : ∃ w1, w1 = w0.alloc (.cells #[.int .i64 r, .slice none 0 0] 77) := ⟨_, rfl⟩
  have b1 : Below (w.alloc (.cells A 95)).heap.size (w.alloc (.cells A 95)) w0 := by rw [hw0]; exact Below.tr (below_alloc _ _) (below_alloc _ _)
  have b2 : Below w0.heap.size w0 w1 := by rw [hw1]; exact below_alloc _ _
  have HF := Lib.hid (show Fk w w1 A r (.slice none 0 0) [] from
    ⟨Below.tr (below_alloc _ _) (Below.tr b1 b2), blk_keep (heap_alloc_new w _) (Below.tr b1 b2), by
      have := heap_alloc_new ((w.alloc (.cells A 95)).alloc (.cells #[.int .i64 r, .slice a l.length cap] 88)) (.cells #[.int .i64 0, .slice none 0 0] 77)
      rw [← hw0, show ((w.alloc (.cells A 95)).alloc (.cells #[.int .i64 r, .slice a l.length cap] 88)).heap.size = w.heap.size + 2 by simp] at this
      exact blk_keep this b2, by
      have := heap_alloc_new w0 (.cells #[.int .i64 r, .slice none 0 0] 77)
      rw [← hw1, hz0] at this; exact this, ownInts_nil _ _⟩)
  have a1 : w1.cell? ⟨w.heap.size + 1, 1, none⟩ = some (.slice a l.length cap) := by
    have h0 : (w.alloc (.cells A 95)).heap.size = w.heap.size + 1 := by simp
    have := cell_new (w.alloc (.cells A 95)) #[.int .i64 r, .slice a l.length cap] 88 1
    rw [h0] at this
    exact Below.keep b2 (by rw [hw0]; exact Below.keep (below_alloc _ _) this)
  have a0 : w0.cell? ⟨w.heap.size + 1, 0, none⟩ = some (.int .i64 r) := by
    have h0 : (w.alloc (.cells A 95)).heap.size = w.heap.size + 1 := by simp
    have := cell_new (w.alloc (.cells A 95)) #[.int .i64 r, .slice a l.length cap] 88 0
    rw [h0] at this
    rw [hw0]; exact Below.keep (below_alloc _ _) this
  have Hw0 := Lib.hid hw0
  have Hw1 := Lib.hid hw1
  have Hz0 := Lib.hid hz0
  obtain ⟨ws, hws⟩ : ∃ ws, ws = w.heap.size := ⟨_, rfl⟩
  clear hu ha hc hw1 hw0 hA hv8 hk b1 b2 hS hz0
  go_enter Try.func117, Try.ntmps117
  go_upto_region 1 with fail
  rw [← Hw0.out]
  go_upto_region 2 with fail
  rw [← Hw1.out, Hz0.out]
  clear Hw0 Hw1 Hz0 a0
  go_wp2_with fail
  clear a1
  go_loopw [14] (fun vi wr => ∃ (k : Nat) (o : Value), vi = .int .i64 k ∧ k ≤ l.length ∧ Fk w wr A r o ((l.take k).map (numOf v))) (fun vi _ => l.length - (intOf vi).toNat)
  case atStart => exact ⟨0, _, rfl, Nat.zero_le _, HF.out⟩
  case round =>
    clear HF
    obtain ⟨k, o, rfl, hk, hF⟩ := hrel
    have HF := Lib.hid hF
    clear hF
    by_cases hlt : k < l.length
    · have hixk := Hix.out k
      have hck := Below.keep HF.out.b (Hc.out k hlt)
      have e : l.getD k 0 = l[k] := by rw [List.getD_eq_getElem?_getD, List.getElem?_eq_getElem hlt]; rfl
      have HT := Lib.hid (show (l.take (k + 1)).map (numOf v) = (l.take k).map (numOf v) ++ [numOf v (l.getD k 0)] from by rw [List.take_succ_eq_append_getElem hlt, e, List.map_append]; rfl)
      rw [← e] at hck
      have HNk := Lib.hid (HN.out _ (Hk.out k hlt))
      obtain ⟨t, ht⟩ : ∃ t, t = l.getD k 0 := ⟨_, rfl⟩
      obtain ⟨N, hN⟩ : ∃ N, N = numOf v t := ⟨_, rfl⟩
      rw [← ht] at hck HT HNk
      rw [← hN] at HT HNk
      obtain ⟨oa, on, oc, rfl⟩ := own_slice HF.out.own
      have hlen : ((l.take k).map (numOf v)).length ≤ 1000 := by rw [List.length_map, List.length_take]; omega
      obtain ⟨xs, hxs⟩ : ∃ xs, xs = (l.take k).map (numOf v) := ⟨_, rfl⟩
      rw [← hxs] at HF HT hlen
      clear ht hN e hxs
      go_upto_region 5 with fail
      have HK := Lib.hid (HF.out.keep (w' := wr.drew) (Below.refl _ _).drew)
      clear HF hck hixk
      refine wp_region_any (by kernel_rfl) ?_
      change wpAny _ _ _ _ _ _ _ (World.drew _)
      generalize wr.drew = w5 at *
      refine wpAny_take (i := 0) (v := ?_) rfl (by kernel_rfl) (by kernel_rfl) (by kernel_rfl) (fun _ _ _ h => h) (Or.inl ⟨by rfl, ?_⟩) ?_
      rotate_left
      focus (first | (intro w; go_simp; done) | (intro w; go_simp; with_reducible rfl))
      simp only [Act.put, List.getElem_toArray, List.getElem_cons_zero, List.setIfInBounds_toArray, List.set_cons_zero, List.set_cons_succ]
      refine wpAny_take (i := 3) (v := ?_) rfl (by kernel_rfl) (by kernel_rfl) (by kernel_rfl) (fun _ _ _ h => h) (Or.inl ⟨by rfl, ?_⟩) ?_
      rotate_left
      focus (first | (intro w; go_simp; done) | (intro w; go_simp; with_reducible rfl))
      simp only [Act.put, List.getElem_toArray, List.getElem_cons_zero, List.getElem_cons_succ, List.setIfInBounds_toArray, List.set_cons_zero, List.set_cons_succ]
      refine wpAny_ready (rs := [1, 2]) (by kernel_rfl) (by simp) ?_
      refine AllReady.cons rfl (fun K2 hK => ?_) ?_
      · have c1 := HK.out.c1
        go_simp
        refine hK _ _ ?_
        clear hK K2 c1
        refine wpAny_ready (rs := [2]) (by kernel_rfl) (by simp) ?_
        refine AllReady.cons rfl (fun K2 hK => ?_) AllReady.nil
        refine step_load_row rfl 95 (.tmp 2) rfl w.heap.size rfl 95 A (0, 0) _ HK.out.hv undVals rfl HS.out ?_
        refine hK _ _ ?_
        clear hK K2
        refine wpAny_ready (rs := [4]) (by kernel_rfl) (by simp) ?_
        refine AllReady.cons rfl (fun K2 hK => ?_) AllReady.nil
        go_simp
        go_at_call 143
        refine (HNk.out _).mono ?_
        rintro e w6 ⟨rfl, hb⟩
        have HK6 := Lib.hid (HK.out.keep hb)
        clear hb
        go_simp
        refine hK _ _ ?_
        clear hK K2
        refine wpAny_ready (rs := [5]) (by kernel_rfl) (by simp) ?_
        refine AllReady.cons rfl (fun K2 hK => ?_) AllReady.nil
        have HK7 := Lib.hid (HK6.out.keep (below_alloc w6 (.cells #[.int .i64 N] 3)))
        go_simp
        refine hK _ _ ?_
        clear hK K2
        refine wpAny_ready (rs := [6]) (by kernel_rfl) (by simp) ?_
        refine AllReady.cons rfl (fun K2 hK => ?_) AllReady.nil
        refine step_append_own rfl (.tmp 19) (.tmp 23) 22 rfl elemInts rfl HK7.out.own [.int .i64 N] rfl rfl ?c1 ?c2 ?c3 ?c4 ?_
        case c1 => intro j u hj; rw [cell_new]; simpa using hj
        case c2 => intro u hu; simp at hu; subst hu; rfl
        case c3 => omega
        case c4 => have := (Array.getElem?_eq_some_iff.1 HK7.out.hf).1; omega
        intro v' w8 h1 h2
        obtain ⟨na, nn, nc, rfl⟩ := own_slice (OwnInts.snoc h1)
        have HP := Lib.hid (HK7.out.put h2 (OwnInts.snoc h1))
        have hcf := (h2.block _ (by omega)).trans HK7.out.hf
        have k1 := cell_of_row w8 _ 1 _ _ _ hcf
        have f1 := frozen_of_row w8 _ 1 _ _ hcf
        have HKF := Lib.hid (And.intro k1 f1)
        clear h1 h2 hcf k1 f1
        refine hK _ _ ?_
        clear hK K2
        refine wpAny_take (i := 7) (v := ?_) rfl (by kernel_rfl) (by kernel_rfl) (by kernel_rfl) (fun _ _ _ h => h) (Or.inl ⟨by rfl, ?_⟩) ?_
        rotate_left
        focus (first | (intro w; go_simp; done) | (intro w; go_simp; with_reducible rfl))
        simp only [Act.put, List.getElem_toArray, List.getElem_cons_zero, List.getElem_cons_succ, List.setIfInBounds_toArray, List.set_cons_zero, List.set_cons_succ]
        refine wpAny_ready (rs := [8]) (by kernel_rfl) (by simp) ?_
        refine AllReady.cons rfl (fun K2 hK => ?_) AllReady.nil
        have k1 := HKF.out.1
        have f1 := HKF.out.2
        go_simp
        refine hK _ _ ?_
        clear hK K2 k1 f1
        refine wpAny_done (by kernel_rfl) ?_ _
        go_wp2_with fail
        go_roundw
        case rel => exact ⟨k + 1, _, by go_num, by omega, by rw [HT.out]; exact HP.out⟩
        case measure => simp [intOf]; omega
      · refine AllReady.cons rfl (fun K2 hK => ?_) AllReady.nil
        refine step_load_row rfl 95 (.tmp 2) rfl w.heap.size rfl 95 A (0, 0) _ HK.out.hv undVals rfl HS.out ?_
        refine hK _ _ ?_
        clear hK K2
        refine wpAny_ready (rs := [1, 4]) (by kernel_rfl) (by simp) ?_
        refine AllReady.cons rfl (fun K2 hK => ?_) ?_
        · have c1 := HK.out.c1
          go_simp
          refine hK _ _ ?_
          clear hK K2 c1
          refine wpAny_ready (rs := [4]) (by kernel_rfl) (by simp) ?_
          refine AllReady.cons rfl (fun K2 hK => ?_) AllReady.nil
          go_simp
          go_at_call 143
          refine (HNk.out _).mono ?_
          rintro e w6 ⟨rfl, hb⟩
          have HK6 := Lib.hid (HK.out.keep hb)
          clear hb
          go_simp
          refine hK _ _ ?_
          clear hK K2
          refine wpAny_ready (rs := [5]) (by kernel_rfl) (by simp) ?_
          refine AllReady.cons rfl (fun K2 hK => ?_) AllReady.nil
          have HK7 := Lib.hid (HK6.out.keep (below_alloc w6 (.cells #[.int .i64 N] 3)))
          go_simp
          refine hK _ _ ?_
          clear hK K2
          refine wpAny_ready (rs := [6]) (by kernel_rfl) (by simp) ?_
          refine AllReady.cons rfl (fun K2 hK => ?_) AllReady.nil
          refine step_append_own rfl (.tmp 19) (.tmp 23) 22 rfl elemInts rfl HK7.out.own [.int .i64 N] rfl rfl ?c1 ?c2 ?c3 ?c4 ?_
          case c1 => intro j u hj; rw [cell_new]; simpa using hj
          case c2 => intro u hu; simp at hu; subst hu; rfl
          case c3 => omega
          case c4 => have := (Array.getElem?_eq_some_iff.1 HK7.out.hf).1; omega
          intro v' w8 h1 h2
          obtain ⟨na, nn, nc, rfl⟩ := own_slice (OwnInts.snoc h1)
          have HP := Lib.hid (HK7.out.put h2 (OwnInts.snoc h1))
          have hcf := (h2.block _ (by omega)).trans HK7.out.hf
          have k1 := cell_of_row w8 _ 1 _ _ _ hcf
          have f1 := frozen_of_row w8 _ 1 _ _ hcf
          have HKF := Lib.hid (And.intro k1 f1)
          clear h1 h2 hcf k1 f1
          refine hK _ _ ?_
          clear hK K2
          refine wpAny_take (i := 7) (v := ?_) rfl (by kernel_rfl) (by kernel_rfl) (by kernel_rfl) (fun _ _ _ h => h) (Or.inl ⟨by rfl, ?_⟩) ?_
          rotate_left
          focus (first | (intro w; go_simp; done) | (intro w; go_simp; with_reducible rfl))
          simp only [Act.put, List.getElem_toArray, List.getElem_cons_zero, List.getElem_cons_succ, List.setIfInBounds_toArray, List.set_cons_zero, List.set_cons_succ]
          refine wpAny_ready (rs := [8]) (by kernel_rfl) (by simp) ?_
          refine AllReady.cons rfl (fun K2 hK => ?_) AllReady.nil
          have k1 := HKF.out.1
          have f1 := HKF.out.2
          go_simp
          refine hK _ _ ?_
          clear hK K2 k1 f1
          refine wpAny_done (by kernel_rfl) ?_ _
          go_wp2_with fail
          go_roundw
          case rel => exact ⟨k + 1, _, by go_num, by omega, by rw [HT.out]; exact HP.out⟩
          case measure => simp [intOf]; omega
        · refine AllReady.cons rfl (fun K2 hK => ?_) AllReady.nil
          go_simp
          go_at_call 143
          refine (HNk.out _).mono ?_
          rintro e w6 ⟨rfl, hb⟩
          have HK6 := Lib.hid (HK.out.keep hb)
          clear hb
          go_simp
          refine hK _ _ ?_
          clear hK K2
          refine wpAny_ready (rs := [1, 5]) (by kernel_rfl) (by simp) ?_
          refine AllReady.cons rfl (fun K2 hK => ?_) ?_
          · have c1 := HK6.out.c1
            go_simp
            refine hK _ _ ?_
            clear hK K2 c1
            refine wpAny_ready (rs := [5]) (by kernel_rfl) (by simp) ?_
            refine AllReady.cons rfl (fun K2 hK => ?_) AllReady.nil
            have HK7 := Lib.hid (HK6.out.keep (below_alloc w6 (.cells #[.int .i64 N] 3)))
            go_simp
            refine hK _ _ ?_
            clear hK K2
            refine wpAny_ready (rs := [6]) (by kernel_rfl) (by simp) ?_
            refine AllReady.cons rfl (fun K2 hK => ?_) AllReady.nil
            refine step_append_own rfl (.tmp 19) (.tmp 23) 22 rfl elemInts rfl HK7.out.own [.int .i64 N] rfl rfl ?c1 ?c2 ?c3 ?c4 ?_
            case c1 => intro j u hj; rw [cell_new]; simpa using hj
            case c2 => intro u hu; simp at hu; subst hu; rfl
            case c3 => omega
            case c4 => have := (Array.getElem?_eq_some_iff.1 HK7.out.hf).1; omega
            intro v' w8 h1 h2
            obtain ⟨na, nn, nc, rfl⟩ := own_slice (OwnInts.snoc h1)
            have HP := Lib.hid (HK7.out.put h2 (OwnInts.snoc h1))
            have hcf := (h2.block _ (by omega)).trans HK7.out.hf
            have k1 := cell_of_row w8 _ 1 _ _ _ hcf
            have f1 := frozen_of_row w8 _ 1 _ _ hcf
            have HKF := Lib.hid (And.intro k1 f1)
            clear h1 h2 hcf k1 f1
            refine hK _ _ ?_
            clear hK K2
            refine wpAny_take (i := 7) (v := ?_) rfl (by kernel_rfl) (by kernel_rfl) (by kernel_rfl) (fun _ _ _ h => h) (Or.inl ⟨by rfl, ?_⟩) ?_
            rotate_left
            focus (first | (intro w; go_simp; done) | (intro w; go_simp; with_reducible rfl))
            simp only [Act.put, List.getElem_toArray, List.getElem_cons_zero, List.getElem_cons_succ, List.setIfInBounds_toArray, List.set_cons_zero, List.set_cons_succ]
            refine wpAny_ready (rs := [8]) (by kernel_rfl) (by simp) ?_
            refine AllReady.cons rfl (fun K2 hK => ?_) AllReady.nil
            have k1 := HKF.out.1
            have f1 := HKF.out.2
            go_simp
            refine hK _ _ ?_
            clear hK K2 k1 f1
            refine wpAny_done (by kernel_rfl) ?_ _
            go_wp2_with fail
            go_roundw
            case rel => exact ⟨k + 1, _, by go_num, by omega, by rw [HT.out]; exact HP.out⟩
            case measure => simp [intOf]; omega
          · refine AllReady.cons rfl (fun K2 hK => ?_) AllReady.nil
            have HK7 := Lib.hid (HK6.out.keep (below_alloc w6 (.cells #[.int .i64 N] 3)))
            go_simp
            refine hK _ _ ?_
            clear hK K2
            refine wpAny_ready (rs := [1]) (by kernel_rfl) (by simp) ?_
            refine AllReady.cons rfl (fun K2 hK => ?_) AllReady.nil
            have c1 := HK7.out.c1
            go_simp
            refine hK _ _ ?_
            clear hK K2 c1
            refine wpAny_ready (rs := [6]) (by kernel_rfl) (by simp) ?_
            refine AllReady.cons rfl (fun K2 hK => ?_) AllReady.nil
            refine step_append_own rfl (.tmp 19) (.tmp 23) 22 rfl elemInts rfl HK7.out.own [.int .i64 N] rfl rfl ?c1 ?c2 ?c3 ?c4 ?_
            case c1 => intro j u hj; rw [cell_new]; simpa using hj
            case c2 => intro u hu; simp at hu; subst hu; rfl
            case c3 => omega
            case c4 => have := (Array.getElem?_eq_some_iff.1 HK7.out.hf).1; omega
            intro v' w8 h1 h2
            obtain ⟨na, nn, nc, rfl⟩ := own_slice (OwnInts.snoc h1)
            have HP := Lib.hid (HK7.out.put h2 (OwnInts.snoc h1))
            have hcf := (h2.block _ (by omega)).trans HK7.out.hf
            have k1 := cell_of_row w8 _ 1 _ _ _ hcf
            have f1 := frozen_of_row w8 _ 1 _ _ hcf
            have HKF := Lib.hid (And.intro k1 f1)
            clear h1 h2 hcf k1 f1
            refine hK _ _ ?_
            clear hK K2
            refine wpAny_take (i := 7) (v := ?_) rfl (by kernel_rfl) (by kernel_rfl) (by kernel_rfl) (fun _ _ _ h => h) (Or.inl ⟨by rfl, ?_⟩) ?_
            rotate_left
            focus (first | (intro w; go_simp; done) | (intro w; go_simp; with_reducible rfl))
            simp only [Act.put, List.getElem_toArray, List.getElem_cons_zero, List.getElem_cons_succ, List.setIfInBounds_toArray, List.set_cons_zero, List.set_cons_succ]
            refine wpAny_ready (rs := [8]) (by kernel_rfl) (by simp) ?_
            refine AllReady.cons rfl (fun K2 hK => ?_) AllReady.nil
            have k1 := HKF.out.1
            have f1 := HKF.out.2
            go_simp
            refine hK _ _ ?_
            clear hK K2 k1 f1
            refine wpAny_done (by kernel_rfl) ?_ _
            go_wp2_with fail
            go_roundw
            case rel => exact ⟨k + 1, _, by go_num, by omega, by rw [HT.out]; exact HP.out⟩
            case measure => simp [intOf]; omega
    · obtain rfl : k = l.length := by omega
      have c0 := HF.out.c0
      have c1 := HF.out.c1
      have r0 : wr.cell? ⟨w.heap.size + 2, 0, none⟩ = some (.int .i64 0) := by rw [cell_of_row wr _ 0 _ _ _ HF.out.hr]; rfl
      have r1 : wr.cell? ⟨w.heap.size + 2, 1, none⟩ = some (.slice none 0 0) := by rw [cell_of_row wr _ 1 _ _ _ HF.out.hr]; rfl
      have f0 := frozen_of_row wr _ 0 _ _ HF.out.hr
      have f1 := frozen_of_row wr _ 1 _ _ HF.out.hr
      obtain ⟨oa, on, oc, rfl⟩ := own_slice HF.out.own
      have HG := Lib.hid (show ((wr.setCell ⟨w.heap.size + 2, 0, none⟩ (.int .i64 r)).setCell ⟨w.heap.size + 2, 1, none⟩ (.slice oa on oc)).heap[w.heap.size + 2]? = some (.cells #[.int .i64 r, .slice oa on oc] 77 (0, 0)) from by
        rw [heap_setCell_same _ _ 1 _ _ _ (heap_setCell_same wr _ 0 _ _ _ HF.out.hr)]; rfl)
      have HB := Lib.hid (show Below w.heap.size w ((wr.setCell ⟨w.heap.size + 2, 0, none⟩ (.int .i64 r)).setCell ⟨w.heap.size + 2, 1, none⟩ (.slice oa on oc)) from (HF.out.b.setCell (by simp) _).setCell (by simp) _)
      have HO := Lib.hid (show OwnInts w.heap.size ((wr.setCell ⟨w.heap.size + 2, 0, none⟩ (.int .i64 r)).setCell ⟨w.heap.size + 2, 1, none⟩ (.slice oa on oc)) (.slice oa on oc) (l.map (numOf v)) from by
        have := HF.out.own
        rw [List.take_length] at this
        exact OwnInts.base (ownsRow_setCell_below (ownsRow_setCell_below this (by simp) _) (by simp) _) (by omega))
      go_wp2_with fail
      exact bodyPost_ret (results_cell_row Try.results117 _ _ (w.heap.size + 2) 77 _ (0, 0) _ rfl HG.out Try.underlying77 rfl (by kernel_rfl)) rfl ⟨_, rfl, HO.out, HB.out⟩
#print axioms fact_any
end Go.Proofs.Ytfplmdieeabgpaa

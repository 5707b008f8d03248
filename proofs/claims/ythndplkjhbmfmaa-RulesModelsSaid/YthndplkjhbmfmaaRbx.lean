/- Contract of (binding).extend: a binding and a fact give a binding, or none. -/
import Derived.Test.YthndplkjhbmfmaaRcd
import Derived.Test.YthndplkjhbmfmaaRvv
import Derived.BigQuiet
namespace Go.Proofs.Ythndplkjhbmfmaa
open Go.RowKit
def vrow (v : List Int) : Array Value := (v.map (Value.int .i64)).toArray
theorem vrow_size (v : List Int) : (vrow v).size = v.length := by simp [vrow]
theorem vrow_at {v : List Int} {i : Nat} (h : i < v.length) : (vrow v)[i]? = some (.int .i64 (v.getD i 0)) := by
  simp [vrow, h]
theorem undVals : Try.prog.underlying 200 = some (.array 8 3) := by kernel_rfl
theorem sizeVals : (Try.prog.info? 200).map (·.size) = some 8 := by kernel_rfl
theorem blk_keep {w w' : World} {b : Nat} {o : Obj} (h : w.heap[b]? = some o) (hb : Below w.heap.size w w') : w'.heap[b]? = some o := blk_keep2 h hb
theorem below_setRow {B : Nat} {a w : World} (h : Below B a w) {b : Nat} (hb : B ≤ b) (cs : Array Value) : Below B a (w.setRow b cs) :=
  ⟨h.os, h.tape, h.output, by simpa using h.size, fun k hk => by
    show (w.heap.modify b _)[k]? = _
    rw [Array.getElem?_modify, if_neg (by omega)]; exact h.block k hk⟩
theorem vrow_one (v : List Int) : (vrow v).all (·.oneCell') = true := by
  rw [Array.all_eq_true_iff_forall_mem]
  intro x hx
  simp only [vrow, List.mem_toArray, List.mem_map] at hx
  obtain ⟨y, _, rfl⟩ := hx
  rfl
theorem vrow_set (v : List Int) (i : Nat) (x : Int) : (vrow v).setIfInBounds i (.int .i64 x) = vrow (v.set i x) := by
  simp [vrow, List.map_set]
theorem results_cell_tmp {P : Program} {fn : Func} {p t' : Tmp} {ty : TypeId} (h : fn.results = #[.cell p ty, .tmp t']) (tmps : Array Value) (w : World) (g : Nat) (t : TypeId) (cs : Array Value) (fr : Nat × Nat) (d : TypeDesc)
    (hp : tmps.getD p undef = .pointer (some ⟨g, 0, none⟩)) (hg : w.heap[g]? = some (.cells cs t fr))
    (hu : P.underlying ty = some d) (hd : (match d with | .struct _ | .array _ _ => true | _ => false) = true) (hi : (P.info? ty).map (·.size) = some cs.size) :
    (results fn tmps).run P w = .ok (.tuple #[.agg cs, tmps.getD t' undef]) w := by
  have hp' : tmps[p]?.getD undef = .pointer (some ⟨g, 0, none⟩) := by simpa using hp
  simp [results, h, hp', asAddr, run_loadVar_row w g t ty cs fr d hg hu hd hi]
/-- what the walk of extend keeps -/
structure Ew (w wr : World) (x : List Int) (r2 : Int) (u2 : Value) : Prop where
  b : Below w.heap.size w wr
  hv : wr.heap[w.heap.size]? = some (.cells (vrow x) 200 (0, 0))
  hf : wr.heap[w.heap.size + 2]? = some (.cells #[.int .i64 r2, u2] 50 (0, 0))
  hr : wr.heap[w.heap.size + 3]? = some (.cells (vrow (List.replicate 8 0)) 200 (0, 0))
theorem Ew.keep {w wr w' : World} {x : List Int} {r2 : Int} {u2 : Value} (k : Ew w wr x r2 u2) (hb : Below wr.heap.size wr w') : Ew w w' x r2 u2 :=
  ⟨Below.tr k.b hb, blk_keep k.hv hb, blk_keep k.hf hb, blk_keep k.hr hb⟩
theorem Ew.put {w wr : World} {x : List Int} {r2 : Int} {u2 : Value} (k : Ew w wr x r2 u2) (i : Nat) (y : Int) : Ew w (wr.setCell ⟨w.heap.size, i, none⟩ (.int .i64 y)) (x.set i y) r2 u2 :=
  ⟨k.b.setCell (Nat.le_refl _) _, by rw [heap_setCell_same wr _ i _ _ _ k.hv, vrow_set], (heap_setCell_other wr ⟨w.heap.size, i, none⟩ _ _ (by simp)).trans k.hf, (heap_setCell_other wr ⟨w.heap.size, i, none⟩ _ _ (by simp)).trans k.hr⟩
theorem eCell {w : World} {b : Nat} {cs : Array Value} {t : TypeId} {fr : Nat × Nat} (h : w.heap[b]? = some (.cells cs t fr)) (j : Nat) {v : Value} (hv : cs[j]? = some v) : w.cell? ⟨b, j, none⟩ = some v := by rw [cell_of_row w b j cs t fr h]; exact hv
/-- what extend returns -/
def ExR (v : List Int) (a f : HAt) (x : List Int) (B : Bool) : Prop := x.length = 8 ∧ ((B = true ∧ extA v a f = some x) ∨ (B = false ∧ extA v a f = none))
theorem ext_drop {x A F : List Int} {k : Nat} (h1 : k < A.length) (h2 : k < F.length) : ext x ((A.zip F).drop k) =
    if numOf (if 0 ≤ A.getD k 0 ∧ x.getD (A.getD k 0).toNat 0 = 0 then x.set (A.getD k 0).toNat (F.getD k 0) else x) (A.getD k 0) = F.getD k 0 then ext (if 0 ≤ A.getD k 0 ∧ x.getD (A.getD k 0).toNat 0 = 0 then x.set (A.getD k 0).toNat (F.getD k 0) else x) ((A.zip F).drop (k + 1)) else none := by
  have e1 : A.getD k 0 = A[k] := by rw [List.getD_eq_getElem?_getD, List.getElem?_eq_getElem h1]; rfl
  have e2 : F.getD k 0 = F[k] := by rw [List.getD_eq_getElem?_getD, List.getElem?_eq_getElem h2]; rfl
  rw [e1, e2, List.drop_eq_getElem_cons (by simp; omega), List.getElem_zip, ext]
set_option maxRecDepth 100000 in
set_option maxHeartbeats 16000000 in
theorem extend_any (v : List Int) (hv8 : v.length = 8) (r : Int) (A : List Int) (hA : ∀ i, i < A.length → -9 ≤ A.getD i 0 ∧ A.getD i 0 ≤ 7) (u : Value) (r2 : Int) (F : List Int) (u2 : Value) (w : World) (hu : Ints w u A) (hu2 : Ints w u2 F) :
    Calls Try.prog 143 #[.agg (vrow v), .agg #[.int .i64 r, u], .agg #[.int .i64 r2, u2]] w fun e w' => ∃ (x : List Int) (B : Bool), e = .returned (.tuple #[.agg (vrow x), .bool B]) ∧ ExR v (r, A) (r2, F) x B ∧ Below w.heap.size w w' := by
  obtain ⟨a, b, off, cap, rfl, hle, ha, hc⟩ := Ints.get hu
  obtain ⟨a2, b2, off2, cap2, rfl, hle2, ha2, hc2⟩ := Ints.get hu2
  have Hix := Lib.hid (run_ix (P := Try.prog) (t := 23) (a := a) (len := A.length) (cap := cap) (b := b) (off := off) (s := 1) Try.underlying23 (by intro w; kernel_rfl) ha)
  have Hix2 := Lib.hid (run_ix (P := Try.prog) (t := 23) (a := a2) (len := F.length) (cap := cap2) (b := b2) (off := off2) (s := 1) Try.underlying23 (by intro w; kernel_rfl) ha2)
  simp only [Nat.mul_one] at Hix Hix2
  have Hc := Lib.hid hc
  have Hc2 := Lib.hid (show ∀ i, i < F.length → w.cell? ⟨b2, off2 + i, none⟩ = some (.int .i64 (F.getD i 0)) from fun i h => by
    rw [List.getD_eq_getElem?_getD, List.getElem?_eq_getElem h]; exact hc2 i h)
  have HA := Lib.hid hA
  have HSz := Lib.hid (fun (x : List Int) (hx : x.length = 8) => show (Try.prog.info? 200).map (·.size) = some (vrow x).size by rw [vrow_size, hx]; exact sizeVals)
  obtain ⟨w1, hw1⟩ : ∃ w1, w1 = (((w.alloc (.cells (vrow v) 200)).alloc (.cells #[.int .i64 r, .slice a A.length cap] 94)).alloc (.cells #[.int .i64 r2, .slice a2 F.length cap2] 50)).alloc (.cells (vrow (List.replicate 8 0)) 200) := ⟨_, rfl⟩
  have b1 : Below (w.alloc (.cells (vrow v) 200)).heap.size (w.alloc (.cells (vrow v) 200)) w1 := by rw [hw1]; exact Below.tr (below_alloc _ _) (Below.tr (below_alloc _ _) (below_alloc _ _))
  have HE := Lib.hid (show Ew w w1 v r2 (.slice a2 F.length cap2) from
    ⟨Below.tr (below_alloc _ _) b1, blk_keep (heap_alloc_new w _) b1, by
      rw [hw1]
      have h := heap_alloc_new ((w.alloc (.cells (vrow v) 200)).alloc (.cells #[.int .i64 r, .slice a A.length cap] 94)) (.cells #[.int .i64 r2, .slice a2 F.length cap2] 50)
      rw [show ((w.alloc (.cells (vrow v) 200)).alloc (.cells #[.int .i64 r, .slice a A.length cap] 94)).heap.size = w.heap.size + 2 by simp] at h
      exact blk_keep h (below_alloc _ _), by
      rw [hw1]
      have h := heap_alloc_new (((w.alloc (.cells (vrow v) 200)).alloc (.cells #[.int .i64 r, .slice a A.length cap] 94)).alloc (.cells #[.int .i64 r2, .slice a2 F.length cap2] 50)) (.cells (vrow (List.replicate 8 0)) 200)
      rw [show (((w.alloc (.cells (vrow v) 200)).alloc (.cells #[.int .i64 r, .slice a A.length cap] 94)).alloc (.cells #[.int .i64 r2, .slice a2 F.length cap2] 50)).heap.size = w.heap.size + 3 by simp] at h
      exact h⟩)
  have hat : w1.heap[w.heap.size + 1]? = some (.cells #[.int .i64 r, .slice a A.length cap] 94 (0, 0)) := by
    have h := heap_alloc_new (w.alloc (.cells (vrow v) 200)) (.cells #[.int .i64 r, .slice a A.length cap] 94)
    rw [show (w.alloc (.cells (vrow v) 200)).heap.size = w.heap.size + 1 by simp] at h
    rw [hw1]
    exact blk_keep h (Below.tr (below_alloc _ _) (below_alloc _ _))
  have g0 := eCell hat 0 rfl
  have g1 := eCell hat 1 rfl
  have f0 := eCell HE.out.hf 0 rfl
  have f1 := eCell HE.out.hf 1 rfl
  rw [show vrow (List.replicate 8 0) = #[.int .i64 0, .int .i64 0, .int .i64 0, .int .i64 0, .int .i64 0, .int .i64 0, .int .i64 0, .int .i64 0] from rfl] at hw1
  have Hw1 := Lib.hid hw1
  obtain ⟨ws, hws⟩ : ∃ ws, ws = w.heap.size := ⟨_, rfl⟩
  have Hws := Lib.hid hws
  rw [← hws] at g0 g1 f0 f1
  clear hu hu2 ha ha2 hc hc2 hA hw1 b1 hat hws
  go_enter Try.func143, Try.ntmps143
  go_upto_region 1 with fail
  rw [← Hw1.out, ← Hws.out]
  clear Hw1
  by_cases c1 : r = r2
  · have q1 : (r != r2) = false := by rw [bne_eq_false_iff_eq]; exact c1
    by_cases c2 : A.length = F.length
    · have q2 : ((A.length : Int) != (A.length : Int)) = false := by simp
      have HX := Lib.hid (show extA v (r, A) (r2, F) = ext v ((A.zip F).drop 0) from by unfold extA; rw [if_pos ⟨c1, c2⟩, List.drop_zero])
      have HFl := Lib.hid c2.symm
      rw [← c2] at HE f1 Hix2 Hc2 ⊢
      clear c1 c2
      go_wp2_with fail
      clear g0 g1 f0 f1 q1 q2
      go_loopw [28] (fun vi wr => ∃ (k : Nat) (x : List Int), vi = .int .i64 k ∧ k ≤ A.length ∧ x.length = 8 ∧ Ew w wr x r2 (.slice a2 A.length cap2) ∧ ext v ((A.zip F).drop 0) = ext x ((A.zip F).drop k)) (fun vi _ => A.length - (intOf vi).toNat)
      case atStart => exact ⟨0, v, rfl, Nat.zero_le _, hv8, HE.out, rfl⟩
      case round =>
        clear HE
        obtain ⟨k, x, rfl, hk, hx, hE, hR⟩ := hrel
        have HE := Lib.hid hE
        have HR := Lib.hid (HX.out.trans hR)
        have Hx := Lib.hid hx
        clear hE hR
        by_cases hlt : k < A.length
        · have hck := Below.keep HE.out.b (Hc.out k hlt)
          have hc2k := Below.keep HE.out.b (Hc2.out k hlt)
          have hixk := Hix.out k
          have hix2k := Hix2.out k
          have e1 : A.getD k 0 = A[k] := by rw [List.getD_eq_getElem?_getD, List.getElem?_eq_getElem hlt]; rfl
          rw [← e1] at hck
          have HD := Lib.hid (HR.out.trans (ext_drop (x := x) hlt (by rw [HFl.out]; exact hlt)))
          have ht := HA.out k hlt
          obtain ⟨t, htn⟩ : ∃ t, t = A.getD k 0 := ⟨_, rfl⟩
          obtain ⟨y, hyn⟩ : ∃ y, y = F.getD k 0 := ⟨_, rfl⟩
          rw [← htn] at hck HD ht
          rw [← hyn] at hc2k HD
          have Hyn := Lib.hid hyn
          clear e1 htn hyn HR
          obtain ⟨x', hx'⟩ : ∃ x', x' = if 0 ≤ t ∧ x.getD t.toNat 0 = 0 then x.set t.toNat y else x := ⟨_, rfl⟩
          rw [← hx'] at HD
          have hx5 : x'.length = 8 := by rw [hx']; split <;> simp [hx]
          have f1 := eCell HE.out.hf 1 rfl
          rw [← Hws.out] at f1
          by_cases hV : isV t
          · have HV := Lib.hid (isVar_any t true (decide_eq_true hV) wr)
            unfold isV at hV
            obtain ⟨n, rfl⟩ : ∃ n : Nat, t = n := ⟨t.toNat, by omega⟩
            rw [Int.toNat_natCast] at hx'
            have hn0 : (0 : Int) ≤ (n : Int) := by omega
            have hn8 : (n : Int) < 8 := by omega
            have hcn := eCell HE.out.hv n (vrow_at (by omega))
            have hfz := frozen_of_row wr w.heap.size n _ _ HE.out.hv
            rw [← Hws.out] at hcn hfz
            by_cases z : x.getD n 0 = 0
            · rw [if_pos ⟨hn0, z⟩] at hx'
              rw [z] at hcn
              have HE5 := Lib.hid (HE.out.put n y)
              rw [← hx', ← Hws.out] at HE5
              clear hx' z hV
              go_wp2_with fail
              refine HV.out.mono ?_
              rintro e w4 ⟨rfl, rfl⟩
              go_upto_region 8 with fail
              clear hcn hfz hck hc2k f1
              obtain ⟨w5, hw5⟩ : ∃ w5, w5 = w4.setCell ⟨ws, n, none⟩ (.int .i64 y) := ⟨_, rfl⟩
              rw [← hw5] at HE5 ⊢
              clear hw5
              have hf1 := eCell HE5.out.hf 1 rfl
              rw [← Hws.out] at hf1
              have hy2 := Below.keep HE5.out.b (Hc2.out k hlt)
              rw [← Hyn.out] at hy2
              have HVq := Lib.hid (fun w => isVar_any (n : Int) true (decide_eq_true ⟨hn0, hn8⟩) w)
              obtain ⟨N, hN⟩ : ∃ N, N = numOf x' (n : Int) := ⟨_, rfl⟩
              rw [← hN] at HD
              have hNv : x'.getD n 0 = N := by rw [hN]; unfold numOf; rw [if_pos hn0, Int.toNat_natCast]
              have hcv := eCell HE5.out.hv n (vrow_at (by omega))
              rw [← Hws.out, hNv] at hcv
              have hng : decide ((n : Int) < 0) = false := decide_eq_false (by omega)
              clear hNv hN
              have HE6 := HE5
              clear HE5
              by_cases c : N = y
              · have q9 : (N != y) = false := by rw [bne_eq_false_iff_eq]; exact c
                go_quiet (first | (go_at_call 139; exact Calls.quiet_of_same (HVq.out _)))
                generalize hwd : World.drewN _ _ = w7 at *
                have HE7 := Lib.hid (HE6.out.keep (show Below w5.heap.size w5 w7 from by rw [← hwd]; exact ⟨rfl, rfl, rfl, Nat.le_refl _, fun _ _ => rfl⟩))
                clear hwd hf1 hy2 hng HVq hcv
                have R := Lib.hid (HD.out.trans (if_pos c))
                clear c
                go_wp2_with fail
                go_roundw
                case rel => exact ⟨k + 1, x', by go_num, by omega, hx5, HE7.out, HX.out.symm.trans R.out⟩
                case measure => simp [intOf]; omega
              · have q9 : (N != y) = true := by rw [bne_iff_ne]; exact c
                go_quiet (first | (go_at_call 139; exact Calls.quiet_of_same (HVq.out _)))
                generalize hwd : World.drewN _ _ = w7 at *
                have HE7 := Lib.hid (HE6.out.keep (show Below w5.heap.size w5 w7 from by rw [← hwd]; exact ⟨rfl, rfl, rfl, Nat.le_refl _, fun _ _ => rfl⟩))
                clear hwd hf1 hy2 hng HVq hcv
                have R := Lib.hid (show ExR v (r, A) (r2, F) x' false from ⟨hx5, .inr ⟨rfl, HD.out.trans (if_neg c)⟩⟩)
                clear c
                have hrv := HE7.out.hv
                have hrz := HE7.out.hr
                rw [← Hws.out] at hrv hrz
                have Hrv := Lib.hid hrv
                have Hrz := Lib.hid hrz
                have HSx := Lib.hid (HSz.out x' hx5)
                have Hsz := Lib.hid (show (vrow (List.replicate 8 0)).size = (vrow x').size by rw [vrow_size, vrow_size, hx5]; rfl)
                have HG := Lib.hid (setRow_heap w7 (ws + 3) _ (vrow x') _ _ Hrz.out)
                have HB := Lib.hid (below_setRow (b := ws + 3) HE7.out.b (by have := Hws.out; omega) (vrow x'))
                have H1x := Lib.hid (vrow_one x')
                obtain ⟨X, hX⟩ : ∃ X, X = vrow x' := ⟨_, rfl⟩
                have R := Lib.hid (show ∃ y B, (Value.tuple #[.agg X, .bool false]) = .tuple #[.agg (vrow y), .bool B] ∧ ExR v (r, A) (r2, F) y B from ⟨x', false, by rw [hX], R.out⟩)
                rw [← hX] at Hrv HSx Hsz HG HB H1x
                clear hrv hrz hX
                go_wp2_with (first | (refine wpList_load_row rfl 200 (.tmp 3) rfl ws rfl 200 X (0, 0) _ Hrv.out undVals rfl HSx.out ?_) | (refine wpList_store_row rfl 200 (.tmp 6) (.tmp 75) rfl (ws + 3) X rfl rfl 200 _ Hrz.out HSx.out Hsz.out H1x.out ?_))
                refine bodyPost_ret (results_cell_tmp Try.results143 _ _ (ws + 3) 200 X (0, 0) _ rfl HG.out undVals rfl HSx.out) rfl ?_
                obtain ⟨y, B, r1, r2'⟩ := R.out
                exact ⟨y, B, congrArg Ending.returned r1, r2', HB.out⟩
            · rw [if_neg (fun h => z h.2)] at hx'
              subst hx'
              have q1 : ((x'.getD n 0 : Int) == 0) = false := by rw [beq_eq_false_iff_ne]; exact z
              obtain ⟨Z, hZ⟩ : ∃ Z, Z = x'.getD n 0 := ⟨_, rfl⟩
              rw [← hZ] at hcn q1
              have HE5 := HE
              clear hZ z hV
              go_wp2_with fail
              refine HV.out.mono ?_
              rintro e w4 ⟨rfl, rfl⟩
              go_upto_region 8 with fail
              clear hcn hfz hck hc2k f1 q1
              obtain ⟨w5, hw5⟩ : ∃ w5, w5 = w4 := ⟨_, rfl⟩
              rw [← hw5] at HE5 ⊢
              clear hw5
              have hf1 := eCell HE5.out.hf 1 rfl
              rw [← Hws.out] at hf1
              have hy2 := Below.keep HE5.out.b (Hc2.out k hlt)
              rw [← Hyn.out] at hy2
              have HVq := Lib.hid (fun w => isVar_any (n : Int) true (decide_eq_true ⟨hn0, hn8⟩) w)
              obtain ⟨N, hN⟩ : ∃ N, N = numOf x' (n : Int) := ⟨_, rfl⟩
              rw [← hN] at HD
              have hNv : x'.getD n 0 = N := by rw [hN]; unfold numOf; rw [if_pos hn0, Int.toNat_natCast]
              have hcv := eCell HE5.out.hv n (vrow_at (by omega))
              rw [← Hws.out, hNv] at hcv
              have hng : decide ((n : Int) < 0) = false := decide_eq_false (by omega)
              clear hNv hN
              have HE6 := HE5
              clear HE5
              by_cases c : N = y
              · have q9 : (N != y) = false := by rw [bne_eq_false_iff_eq]; exact c
                go_quiet (first | (go_at_call 139; exact Calls.quiet_of_same (HVq.out _)))
                generalize hwd : World.drewN _ _ = w7 at *
                have HE7 := Lib.hid (HE6.out.keep (show Below w5.heap.size w5 w7 from by rw [← hwd]; exact ⟨rfl, rfl, rfl, Nat.le_refl _, fun _ _ => rfl⟩))
                clear hwd hf1 hy2 hng HVq hcv
                have R := Lib.hid (HD.out.trans (if_pos c))
                clear c
                go_wp2_with fail
                go_roundw
                case rel => exact ⟨k + 1, x', by go_num, by omega, hx5, HE7.out, HX.out.symm.trans R.out⟩
                case measure => simp [intOf]; omega
              · have q9 : (N != y) = true := by rw [bne_iff_ne]; exact c
                go_quiet (first | (go_at_call 139; exact Calls.quiet_of_same (HVq.out _)))
                generalize hwd : World.drewN _ _ = w7 at *
                have HE7 := Lib.hid (HE6.out.keep (show Below w5.heap.size w5 w7 from by rw [← hwd]; exact ⟨rfl, rfl, rfl, Nat.le_refl _, fun _ _ => rfl⟩))
                clear hwd hf1 hy2 hng HVq hcv
                have R := Lib.hid (show ExR v (r, A) (r2, F) x' false from ⟨hx5, .inr ⟨rfl, HD.out.trans (if_neg c)⟩⟩)
                clear c
                have hrv := HE7.out.hv
                have hrz := HE7.out.hr
                rw [← Hws.out] at hrv hrz
                have Hrv := Lib.hid hrv
                have Hrz := Lib.hid hrz
                have HSx := Lib.hid (HSz.out x' hx5)
                have Hsz := Lib.hid (show (vrow (List.replicate 8 0)).size = (vrow x').size by rw [vrow_size, vrow_size, hx5]; rfl)
                have HG := Lib.hid (setRow_heap w7 (ws + 3) _ (vrow x') _ _ Hrz.out)
                have HB := Lib.hid (below_setRow (b := ws + 3) HE7.out.b (by have := Hws.out; omega) (vrow x'))
                have H1x := Lib.hid (vrow_one x')
                obtain ⟨X, hX⟩ : ∃ X, X = vrow x' := ⟨_, rfl⟩
                have R := Lib.hid (show ∃ y B, (Value.tuple #[.agg X, .bool false]) = .tuple #[.agg (vrow y), .bool B] ∧ ExR v (r, A) (r2, F) y B from ⟨x', false, by rw [hX], R.out⟩)
                rw [← hX] at Hrv HSx Hsz HG HB H1x
                clear hrv hrz hX
                go_wp2_with (first | (refine wpList_load_row rfl 200 (.tmp 3) rfl ws rfl 200 X (0, 0) _ Hrv.out undVals rfl HSx.out ?_) | (refine wpList_store_row rfl 200 (.tmp 6) (.tmp 75) rfl (ws + 3) X rfl rfl 200 _ Hrz.out HSx.out Hsz.out H1x.out ?_))
                refine bodyPost_ret (results_cell_tmp Try.results143 _ _ (ws + 3) 200 X (0, 0) _ rfl HG.out undVals rfl HSx.out) rfl ?_
                obtain ⟨y, B, r1, r2'⟩ := R.out
                exact ⟨y, B, congrArg Ending.returned r1, r2', HB.out⟩
          · have HV := Lib.hid (isVar_any t false (decide_eq_false hV) wr)
            rw [if_neg (fun h => hV ⟨h.1, by omega⟩)] at hx'
            have htneg : t < 0 := Int.not_le.1 fun h => hV ⟨h, by omega⟩
            subst hx'
            have HE5 := HE
            clear hV
            go_wp2_with fail
            refine HV.out.mono ?_
            rintro e w4 ⟨rfl, rfl⟩
            go_upto_region 8 with fail
            clear hck hc2k f1
            obtain ⟨w5, hw5⟩ : ∃ w5, w5 = w4 := ⟨_, rfl⟩
            rw [← hw5] at HE5 ⊢
            clear hw5
            have hf1 := eCell HE5.out.hf 1 rfl
            rw [← Hws.out] at hf1
            have hy2 := Below.keep HE5.out.b (Hc2.out k hlt)
            rw [← Hyn.out] at hy2
            have HVq := Lib.hid (fun w => isVar_any t false (decide_eq_false (fun h => by omega)) w)
            obtain ⟨N, hN⟩ : ∃ N, N = numOf x' t := ⟨_, rfl⟩
            rw [← hN] at HD
            have hNt : N = -t := by rw [hN]; unfold numOf; rw [if_neg (by omega)]
            have hwn : IntKind.i64.wrap (-t) = N := by rw [hNt]; exact w64 _ (by omega)
            have hng : decide (t < 0) = true := decide_eq_true (by omega)
            clear hNt hN
            have HE6 := HE5
            clear HE5
            by_cases c : N = y
            · have q9 : (N != y) = false := by rw [bne_eq_false_iff_eq]; exact c
              go_quiet (first | (go_at_call 139; exact Calls.quiet_of_same (HVq.out _)))
              generalize hwd : World.drewN _ _ = w7 at *
              have HE7 := Lib.hid (HE6.out.keep (show Below w5.heap.size w5 w7 from by rw [← hwd]; exact ⟨rfl, rfl, rfl, Nat.le_refl _, fun _ _ => rfl⟩))
              clear hwd hf1 hy2 hng HVq hwn
              have R := Lib.hid (HD.out.trans (if_pos c))
              clear c
              go_wp2_with fail
              go_roundw
              case rel => exact ⟨k + 1, x', by go_num, by omega, hx5, HE7.out, HX.out.symm.trans R.out⟩
              case measure => simp [intOf]; omega
            · have q9 : (N != y) = true := by rw [bne_iff_ne]; exact c
              go_quiet (first | (go_at_call 139; exact Calls.quiet_of_same (HVq.out _)))
              generalize hwd : World.drewN _ _ = w7 at *
              have HE7 := Lib.hid (HE6.out.keep (show Below w5.heap.size w5 w7 from by rw [← hwd]; exact ⟨rfl, rfl, rfl, Nat.le_refl _, fun _ _ => rfl⟩))
              clear hwd hf1 hy2 hng HVq hwn
              have R := Lib.hid (show ExR v (r, A) (r2, F) x' false from ⟨hx5, .inr ⟨rfl, HD.out.trans (if_neg c)⟩⟩)
              clear c
              have hrv := HE7.out.hv
              have hrz := HE7.out.hr
              rw [← Hws.out] at hrv hrz
              have Hrv := Lib.hid hrv
              have Hrz := Lib.hid hrz
              have HSx := Lib.hid (HSz.out x' hx5)
              have Hsz := Lib.hid (show (vrow (List.replicate 8 0)).size = (vrow x').size by rw [vrow_size, vrow_size, hx5]; rfl)
              have HG := Lib.hid (setRow_heap w7 (ws + 3) _ (vrow x') _ _ Hrz.out)
              have HB := Lib.hid (below_setRow (b := ws + 3) HE7.out.b (by have := Hws.out; omega) (vrow x'))
              have H1x := Lib.hid (vrow_one x')
              obtain ⟨X, hX⟩ : ∃ X, X = vrow x' := ⟨_, rfl⟩
              have R := Lib.hid (show ∃ y B, (Value.tuple #[.agg X, .bool false]) = .tuple #[.agg (vrow y), .bool B] ∧ ExR v (r, A) (r2, F) y B from ⟨x', false, by rw [hX], R.out⟩)
              rw [← hX] at Hrv HSx Hsz HG HB H1x
              clear hrv hrz hX
              go_wp2_with (first | (refine wpList_load_row rfl 200 (.tmp 3) rfl ws rfl 200 X (0, 0) _ Hrv.out undVals rfl HSx.out ?_) | (refine wpList_store_row rfl 200 (.tmp 6) (.tmp 75) rfl (ws + 3) X rfl rfl 200 _ Hrz.out HSx.out Hsz.out H1x.out ?_))
              refine bodyPost_ret (results_cell_tmp Try.results143 _ _ (ws + 3) 200 X (0, 0) _ rfl HG.out undVals rfl HSx.out) rfl ?_
              obtain ⟨y, B, r1, r2'⟩ := R.out
              exact ⟨y, B, congrArg Ending.returned r1, r2', HB.out⟩
        · obtain rfl : k = A.length := by omega
          have R := Lib.hid (show ExR v (r, A) (r2, F) x true from ⟨hx, .inl ⟨rfl, by rw [HR.out, List.drop_eq_nil_of_le (by rw [List.length_zip]; omega)]; rfl⟩⟩)
          have hrv := HE.out.hv
          have hrz := HE.out.hr
          rw [← Hws.out] at hrv hrz
          have Hrv := Lib.hid hrv
          have Hrz := Lib.hid hrz
          have HSx := Lib.hid (HSz.out x Hx.out)
          have Hsz := Lib.hid (show (vrow (List.replicate 8 0)).size = (vrow x).size by rw [vrow_size, vrow_size, Hx.out]; rfl)
          have HG := Lib.hid (setRow_heap wr (ws + 3) _ (vrow x) _ _ Hrz.out)
          have HB := Lib.hid (below_setRow (b := ws + 3) HE.out.b (by have := Hws.out; omega) (vrow x))
          have H1x := Lib.hid (vrow_one x)
          obtain ⟨X, hX⟩ : ∃ X, X = vrow x := ⟨_, rfl⟩
          have R := Lib.hid (show ∃ y B, (Value.tuple #[.agg X, .bool true]) = .tuple #[.agg (vrow y), .bool B] ∧ ExR v (r, A) (r2, F) y B from ⟨x, true, by rw [hX], R.out⟩)
          rw [← hX] at Hrv HSx Hsz HG HB H1x
          clear hrv hrz hX
          go_wp2_with (first | (refine wpList_load_row rfl 200 (.tmp 3) rfl ws rfl 200 X (0, 0) _ Hrv.out undVals rfl HSx.out ?_) | (refine wpList_store_row rfl 200 (.tmp 6) (.tmp 77) rfl (ws + 3) X rfl rfl 200 _ Hrz.out HSx.out Hsz.out H1x.out ?_))
          refine bodyPost_ret (results_cell_tmp Try.results143 _ _ (ws + 3) 200 X (0, 0) _ rfl HG.out undVals rfl HSx.out) rfl ?_
          obtain ⟨y, B, r1, r2'⟩ := R.out
          exact ⟨y, B, congrArg Ending.returned r1, r2', HB.out⟩
    · have q2 : ((A.length : Int) != (F.length : Int)) = true := by rw [bne_iff_ne]; omega
      have R := Lib.hid (show ExR v (r, A) (r2, F) v false from ⟨hv8, .inr ⟨rfl, by unfold extA; rw [if_neg (fun h => c2 h.2)]⟩⟩)
      clear c1
      have hrv := HE.out.hv
      have hrz := HE.out.hr
      rw [← Hws.out] at hrv hrz
      have Hrv := Lib.hid hrv
      have Hrz := Lib.hid hrz
      have HSx := Lib.hid (HSz.out v hv8)
      have Hsz := Lib.hid (show (vrow (List.replicate 8 0)).size = (vrow v).size by rw [vrow_size, vrow_size, hv8]; rfl)
      have HG := Lib.hid (setRow_heap w1 (ws + 3) _ (vrow v) _ _ Hrz.out)
      have HB := Lib.hid (below_setRow (b := ws + 3) HE.out.b (by have := Hws.out; omega) (vrow v))
      have H1x := Lib.hid (vrow_one v)
      obtain ⟨X, hX⟩ : ∃ X, X = vrow v := ⟨_, rfl⟩
      have R := Lib.hid (show ∃ y B, (Value.tuple #[.agg X, .bool false]) = .tuple #[.agg (vrow y), .bool B] ∧ ExR v (r, A) (r2, F) y B from ⟨v, false, by rw [hX], R.out⟩)
      rw [← hX] at Hrv HSx Hsz HG HB H1x
      clear hrv hrz hX
      go_wp2_with (first | (refine wpList_load_row rfl 200 (.tmp 3) rfl ws rfl 200 X (0, 0) _ Hrv.out undVals rfl HSx.out ?_) | (refine wpList_store_row rfl 200 (.tmp 6) (.tmp 24) rfl (ws + 3) X rfl rfl 200 _ Hrz.out HSx.out Hsz.out H1x.out ?_))
      refine bodyPost_ret (results_cell_tmp Try.results143 _ _ (ws + 3) 200 X (0, 0) _ rfl HG.out undVals rfl HSx.out) rfl ?_
      obtain ⟨y, B, r1, r2'⟩ := R.out
      exact ⟨y, B, congrArg Ending.returned r1, r2', HB.out⟩
  · have q1 : (r != r2) = true := by rw [bne_iff_ne]; exact c1
    have R := Lib.hid (show ExR v (r, A) (r2, F) v false from ⟨hv8, .inr ⟨rfl, by unfold extA; rw [if_neg (fun h => c1 h.1)]⟩⟩)
    have hrv := HE.out.hv
    have hrz := HE.out.hr
    rw [← Hws.out] at hrv hrz
    have Hrv := Lib.hid hrv
    have Hrz := Lib.hid hrz
    have HSx := Lib.hid (HSz.out v hv8)
    have Hsz := Lib.hid (show (vrow (List.replicate 8 0)).size = (vrow v).size by rw [vrow_size, vrow_size, hv8]; rfl)
    have HG := Lib.hid (setRow_heap w1 (ws + 3) _ (vrow v) _ _ Hrz.out)
    have HB := Lib.hid (below_setRow (b := ws + 3) HE.out.b (by have := Hws.out; omega) (vrow v))
    have H1x := Lib.hid (vrow_one v)
    obtain ⟨X, hX⟩ : ∃ X, X = vrow v := ⟨_, rfl⟩
    have R := Lib.hid (show ∃ y B, (Value.tuple #[.agg X, .bool false]) = .tuple #[.agg (vrow y), .bool B] ∧ ExR v (r, A) (r2, F) y B from ⟨v, false, by rw [hX], R.out⟩)
    rw [← hX] at Hrv HSx Hsz HG HB H1x
    clear hrv hrz hX
    go_wp2_with (first | (refine wpList_load_row rfl 200 (.tmp 3) rfl ws rfl 200 X (0, 0) _ Hrv.out undVals rfl HSx.out ?_) | (refine wpList_store_row rfl 200 (.tmp 6) (.tmp 24) rfl (ws + 3) X rfl rfl 200 _ Hrz.out HSx.out Hsz.out H1x.out ?_))
    refine bodyPost_ret (results_cell_tmp Try.results143 _ _ (ws + 3) 200 X (0, 0) _ rfl HG.out undVals rfl HSx.out) rfl ?_
    obtain ⟨y, B, r1, r2'⟩ := R.out
    exact ⟨y, B, congrArg Ending.returned r1, r2', HB.out⟩
#print axioms extend_any
end Go.Proofs.Ythndplkjhbmfmaa

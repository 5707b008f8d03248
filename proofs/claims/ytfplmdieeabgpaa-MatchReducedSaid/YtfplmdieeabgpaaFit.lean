/- The reference's fit has the contract of extend. -/
import Derived.Test.YtfplmdieeabgpaaExv
import Derived.BigQuiet
namespace Go.Proofs.Ytfplmdieeabgpaa
open Go.RowKit
theorem und8 : Try.prog.underlying 94 = some (.array 8 3) := by kernel_rfl
theorem size8 : (Try.prog.info? 94).map (·.size) = some 8 := by kernel_rfl
theorem bdrewN {B : Nat} {a w : World} (h : Below B a w) (d : Nat) : Below B a (w.drewN d) := ⟨h.os, h.tape, h.output, h.size, h.block⟩
/-- what fit and extend return, hidden -/
def ExE (v : List Int) (a f : HAt) (e : Ending) : Prop := ∃ (x : List Int) (B : Bool), e = .returned (.tuple #[.agg (vrow x), .bool B]) ∧ ExR v a f x B
/-- what the walk of fit keeps -/
structure Ef (w wr : World) (x : List Int) (r2 : Int) (u2 : Value) : Prop where
  b : Below w.heap.size w wr
  hv : wr.heap[w.heap.size]? = some (.cells (vrow x) 94 (0, 0))
  hf : wr.heap[w.heap.size + 2]? = some (.cells #[.int .i64 r2, u2] 77 (0, 0))
  hr : wr.heap[w.heap.size + 3]? = some (.cells (vrow (List.replicate 8 0)) 94 (0, 0))
theorem Ef.keep {w wr w' : World} {x : List Int} {r2 : Int} {u2 : Value} (k : Ef w wr x r2 u2) (hb : Below wr.heap.size wr w') : Ef w w' x r2 u2 :=
  ⟨Below.tr k.b hb, blk_keep k.hv hb, blk_keep k.hf hb, blk_keep k.hr hb⟩
theorem Ef.put {w wr : World} {x : List Int} {r2 : Int} {u2 : Value} (k : Ef w wr x r2 u2) (i : Nat) (y : Int) : Ef w (wr.setCell ⟨w.heap.size, i, none⟩ (.int .i64 y)) (x.set i y) r2 u2 :=
  ⟨k.b.setCell (Nat.le_refl _) _, by rw [heap_setCell_same wr _ i _ _ _ k.hv, vrow_set], (heap_setCell_other wr ⟨w.heap.size, i, none⟩ _ _ (by simp)).trans k.hf, (heap_setCell_other wr ⟨w.heap.size, i, none⟩ _ _ (by simp)).trans k.hr⟩
set_option maxRecDepth 100000 in
set_option maxHeartbeats 16000000 in
theorem fitR_any (v : List Int) (hv8 : v.length = 8) (r : Int) (A : List Int) (hA : ∀ i, i < A.length → -9 ≤ A.getD i 0 ∧ A.getD i 0 ≤ 7) (u : Value) (r2 : Int) (F : List Int) (u2 : Value) (w : World) (hu : Ints w u A) (hu2 : Ints w u2 F) :
    Calls Try.prog 108 #[.agg (vrow v), .agg #[.int .i64 r, u], .agg #[.int .i64 r2, u2]] w fun e w' => ExE v (r, A) (r2, F) e ∧ Below w.heap.size w w' := by
  obtain ⟨a, b, off, cap, rfl, hle, ha, hc⟩ := Ints.get hu
  obtain ⟨a2, b2, off2, cap2, rfl, hle2, ha2, hc2⟩ := Ints.get hu2
  have Hix := Lib.hid (run_ix (P := Try.prog) (t := 22) (a := a) (len := A.length) (cap := cap) (b := b) (off := off) (s := 1) Try.underlying22 (by intro w; kernel_rfl) ha)
  have Hix2 := Lib.hid (run_ix (P := Try.prog) (t := 22) (a := a2) (len := F.length) (cap := cap2) (b := b2) (off := off2) (s := 1) Try.underlying22 (by intro w; kernel_rfl) ha2)
  simp only [Nat.mul_one] at Hix Hix2
  have Hc := Lib.hid hc
  have Hc2 := Lib.hid (show ∀ i, i < F.length → w.cell? ⟨b2, off2 + i, none⟩ = some (.int .i64 (F.getD i 0)) from fun i h => by
    rw [List.getD_eq_getElem?_getD, List.getElem?_eq_getElem h]; exact hc2 i h)
  have HA := Lib.hid hA
  have HSz := Lib.hid (fun (x : List Int) (hx : x.length = 8) => show (Try.prog.info? 94).map (·.size) = some (vrow x).size by rw [vrow_size, hx]; exact size8)
  obtain ⟨w1, hw1⟩ : ∃ w1, w1 = (((w.alloc (.cells (vrow v) 94)).alloc (.cells #[.int .i64 r, .slice a A.length cap] 80)).alloc (.cells #[.int .i64 r2, .slice a2 F.length cap2] 77)).alloc (.cells (vrow (List.replicate 8 0)) 94) := ⟨_, rfl⟩
  have b1 : Below (w.alloc (.cells (vrow v) 94)).heap.size (w.alloc (.cells (vrow v) 94)) w1 := by rw [hw1]; exact Below.tr (below_alloc _ _) (Below.tr (below_alloc _ _) (below_alloc _ _))
  have HE := Lib.hid (show Ef w w1 v r2 (.slice a2 F.length cap2) from
    ⟨Below.tr (below_alloc _ _) b1, blk_keep (heap_alloc_new w _) b1, by
      rw [hw1]
      have h := heap_alloc_new ((w.alloc (.cells (vrow v) 94)).alloc (.cells #[.int .i64 r, .slice a A.length cap] 80)) (.cells #[.int .i64 r2, .slice a2 F.length cap2] 77)
      rw [show ((w.alloc (.cells (vrow v) 94)).alloc (.cells #[.int .i64 r, .slice a A.length cap] 80)).heap.size = w.heap.size + 2 by simp] at h
      exact blk_keep h (below_alloc _ _), by
      rw [hw1]
      have h := heap_alloc_new (((w.alloc (.cells (vrow v) 94)).alloc (.cells #[.int .i64 r, .slice a A.length cap] 80)).alloc (.cells #[.int .i64 r2, .slice a2 F.length cap2] 77)) (.cells (vrow (List.replicate 8 0)) 94)
      rw [show (((w.alloc (.cells (vrow v) 94)).alloc (.cells #[.int .i64 r, .slice a A.length cap] 80)).alloc (.cells #[.int .i64 r2, .slice a2 F.length cap2] 77)).heap.size = w.heap.size + 3 by simp] at h
      exact h⟩)
  have hat : w1.heap[w.heap.size + 1]? = some (.cells #[.int .i64 r, .slice a A.length cap] 80 (0, 0)) := by
    have h := heap_alloc_new (w.alloc (.cells (vrow v) 94)) (.cells #[.int .i64 r, .slice a A.length cap] 80)
    rw [show (w.alloc (.cells (vrow v) 94)).heap.size = w.heap.size + 1 by simp] at h
    rw [hw1]
    exact blk_keep h (Below.tr (below_alloc _ _) (below_alloc _ _))
  have g0 := eCell hat 0 rfl
  have g1 := eCell hat 1 rfl
  have f0 := eCell HE.out.hf 0 rfl
  have f1 := eCell HE.out.hf 1 rfl
  rw [show vrow (List.replicate 8 0) = #[.int .i64 0, .int .i64 0, .int .i64 0, .int .i64 0, .int .i64 0, .int .i64 0, .int .i64 0, .int .i64 0] from rfl] at hw1
  have Hw1 := Lib.hid hw1
  obtain ⟨ws, hws⟩ : ∃ ws, ws = w.heap.size := ⟨_, rfl⟩
  have Hws := Lib.hid hws
  rw [← hws] at g0 g1 f0 f1
  clear hu hu2 ha ha2 hc hc2 hA hw1 b1 hat hws
  go_enter Try.func108, Try.ntmps108
  go_upto_region 1 with fail
  rw [← Hw1.out, ← Hws.out]
  clear Hw1
  by_cases c1 : r = r2
  · have q1 : (r != r2) = false := by rw [bne_eq_false_iff_eq]; exact c1
    by_cases c2 : A.length = F.length
    · have q2 : ((A.length : Int) != (A.length : Int)) = false := by simp
      have HX := Lib.hid (show extA v (r, A) (r2, F) = ext v ((A.zip F).drop 0) from by unfold extA; rw [if_pos ⟨c1, c2⟩, List.drop_zero])
      have HFl := Lib.hid c2.symm
      rw [← c2] at HE f1 Hix2 Hc2 ⊢
      clear c1 c2
      go_wp2_with fail
      clear g0 g1 f0 f1 q1 q2
      go_loopw [28] (fun vi wr => ∃ (k : Nat) (x : List Int), vi = .int .i64 k ∧ k ≤ A.length ∧ x.length = 8 ∧ Ef w wr x r2 (.slice a2 A.length cap2) ∧ ext v ((A.zip F).drop 0) = ext x ((A.zip F).drop k)) (fun vi _ => A.length - (intOf vi).toNat)
      case atStart => exact ⟨0, v, rfl, Nat.zero_le _, hv8, HE.out, rfl⟩
      case round =>
        clear HE
        obtain ⟨k, x, rfl, hk, hx, hE, hR⟩ := hrel
        have HE := Lib.hid hE
        have HR := Lib.hid (HX.out.trans hR)
        have Hx := Lib.hid hx
        clear hE hR
        by_cases hlt : k < A.length
        · have hck := Below.keep HE.out.b (Hc.out k hlt)
          have hc2k := Below.keep HE.out.b (Hc2.out k hlt)
          have hixk := Hix.out k
          have hix2k := Hix2.out k
          have e1 : A.getD k 0 = A[k] := by rw [List.getD_eq_getElem?_getD, List.getElem?_eq_getElem hlt]; rfl
          rw [← e1] at hck
          have HD := Lib.hid (HR.out.trans (ext_drop (x := x) hlt (by rw [HFl.out]; exact hlt)))
          have ht := HA.out k hlt
          obtain ⟨t, htn⟩ : ∃ t, t = A.getD k 0 := ⟨_, rfl⟩
          obtain ⟨y, hyn⟩ : ∃ y, y = F.getD k 0 := ⟨_, rfl⟩
          rw [← htn] at hck HD ht
          rw [← hyn] at hc2k HD
          have Hyn := Lib.hid hyn
          clear e1 htn hyn HR
          obtain ⟨x', hx'⟩ : ∃ x', x' = if 0 ≤ t ∧ x.getD t.toNat 0 = 0 then x.set t.toNat y else x := ⟨_, rfl⟩
          rw [← hx'] at HD
          have hx5 : x'.length = 8 := by rw [hx']; split <;> simp [hx]
          have f1 := eCell HE.out.hf 1 rfl
          rw [← Hws.out] at f1
          by_cases hV : t < 0
          · rw [if_neg (fun h => by omega)] at hx'
            subst hx'
            have hwr : IntKind.i64.wrap (-t) = -t := IntWalk.i64_in _ ⟨by omega, by omega⟩
            have hge : ¬ t ≥ 0 := by omega
            rw [show numOf x' t = -t from by unfold numOf; rw [if_neg (by omega)]] at HD
            by_cases c : -t = y
            · have q9 : (y != -t) = false := by rw [bne_eq_false_iff_eq]; exact c.symm
              have R := Lib.hid (HD.out.trans (if_pos c))
              clear c
              have HEd := Lib.hid (fun d => HE.out.keep (w' := wr.drewN d) (bdrewN (Below.refl _ _) _))
              go_upto_region 8 with fail
              go_quiet (fail)
              go_wp2_with fail
              go_roundw
              case rel => exact ⟨k + 1, x', by go_num, by omega, hx5, HEd.out _, HX.out.symm.trans R.out⟩
              case measure => simp [intOf]; omega
            · have q9 : (y != -t) = true := by rw [bne_iff_ne]; exact fun h => c h.symm
              have R := Lib.hid (show ExR v (r, A) (r2, F) x' false from ⟨hx5, .inr ⟨rfl, HD.out.trans (if_neg c)⟩⟩)
              clear c
              have hrv := HE.out.hv
              have hrz := HE.out.hr
              rw [← Hws.out] at hrv hrz
              have Hrv := Lib.hid hrv
              have Hrz := Lib.hid hrz
              have HSx := Lib.hid (HSz.out x' hx5)
              have Hsz := Lib.hid (show (vrow (List.replicate 8 0)).size = (vrow x').size by rw [vrow_size, vrow_size, hx5]; rfl)
              have HG := Lib.hid (setRow_heap wr (ws + 3) _ (vrow x') _ _ Hrz.out)
              have HB := Lib.hid (below_setRow (b := ws + 3) HE.out.b (by have := Hws.out; omega) (vrow x'))
              have H1x := Lib.hid (vrow_one x')
              obtain ⟨X, hX⟩ : ∃ X, X = vrow x' := ⟨_, rfl⟩
              have R := Lib.hid (show ∃ y B, (Value.tuple #[.agg X, .bool false]) = .tuple #[.agg (vrow y), .bool B] ∧ ExR v (r, A) (r2, F) y B from ⟨x', false, by rw [hX], R.out⟩)
              rw [← hX] at Hrv HSx Hsz HG HB H1x
              clear hrv hrz hX
              go_wp2_with (first | (refine wpList_load_row rfl 94 (.tmp 3) rfl ws rfl 94 X (0, 0) _ Hrv.out und8 rfl HSx.out ?_) | (refine wpList_store_row rfl 94 (.tmp 6) (.tmp 46) rfl (ws + 3) X rfl rfl 94 _ Hrz.out HSx.out Hsz.out H1x.out ?_))
              refine bodyPost_ret (results_cell_tmp Try.results108 _ _ (ws + 3) 94 X (0, 0) _ rfl HG.out und8 rfl HSx.out) rfl ?_
              obtain ⟨y, B, r1, r2'⟩ := R.out
              exact ⟨⟨y, B, congrArg Ending.returned r1, r2'⟩, HB.out⟩
          · obtain ⟨n, rfl⟩ : ∃ n : Nat, t = n := ⟨t.toNat, by omega⟩
            rw [Int.toNat_natCast] at hx'
            have hn0 : (0 : Int) ≤ (n : Int) := by omega
            have hge : (n : Int) ≥ 0 := by omega
            have hn8 : (n : Int) < 8 := by omega
            have hcn := eCell HE.out.hv n (vrow_at (by omega))
            have hfz := frozen_of_row wr w.heap.size n _ _ HE.out.hv
            rw [← Hws.out] at hcn hfz
            have hlt0 : ¬ (n : Int) < 0 := by omega
            have HEd := Lib.hid (fun d => HE.out.keep (w' := wr.drewN d) (bdrewN (Below.refl _ _) _))
            by_cases z : x.getD n 0 = 0
            · rw [if_pos ⟨hn0, z⟩] at hx'
              rw [z] at hcn
              have hnum : numOf x' (n : Int) = y := by
                rw [hx']; unfold numOf; rw [if_pos hn0, Int.toNat_natCast, getD_set (by omega), if_pos rfl]
              have R := Lib.hid (HD.out.trans (if_pos hnum))
              have HE5 := Lib.hid (fun d => (HEd.out d).put n y)
              rw [← hx', ← Hws.out] at HE5
              clear hx' z hV hnum
              go_upto_region 8 with fail
              go_quiet (fail)
              go_wp2_with fail
              go_roundw
              case rel => exact ⟨k + 1, x', by go_num, by omega, hx5, HE5.out _, HX.out.symm.trans R.out⟩
              case measure => simp [intOf]; omega
            · rw [if_neg (fun h => z h.2)] at hx'
              subst hx'
              have q1 : ((x'.getD n 0 : Int) != 0) = true := by rw [bne_iff_ne]; exact z
              have hnum : numOf x' (n : Int) = x'.getD n 0 := by unfold numOf; rw [if_pos hn0, Int.toNat_natCast]
              rw [hnum] at HD
              by_cases c : x'.getD n 0 = y
              · have q2 : (y != y) = false := by simp
                have R := Lib.hid (HD.out.trans (if_pos c))
                have hset : x'.set n y = x' := by
                  rw [← c]
                  refine List.ext_getElem (by simp) fun i h1 h2 => ?_
                  rw [List.getElem_set]
                  split
                  · rename_i h; subst h; rw [List.getD_eq_getElem?_getD, List.getElem?_eq_getElem h2]; rfl
                  · rfl
                have HE5 := Lib.hid (fun d => (HEd.out d).put n y)
                rw [hset, ← Hws.out] at HE5
                rw [c] at hcn q1
                clear c hset hnum z hV
                go_upto_region 8 with fail
                go_quiet (fail)
                go_wp2_with fail
                go_roundw
                case rel => exact ⟨k + 1, x', by go_num, by omega, hx5, HE5.out _, HX.out.symm.trans R.out⟩
                case measure => simp [intOf]; omega
              · have q2 : ((x'.getD n 0 : Int) != y) = true := by rw [bne_iff_ne]; exact c
                have R := Lib.hid (show ExR v (r, A) (r2, F) x' false from ⟨hx5, .inr ⟨rfl, HD.out.trans (if_neg c)⟩⟩)
                obtain ⟨Z, hZ⟩ : ∃ Z, Z = x'.getD n 0 := ⟨_, rfl⟩
                rw [← hZ] at hcn q1 q2
                clear c hnum z hV hZ
                go_upto_region 8 with fail
                go_quiet (fail)
                generalize hw9 : wr.drewN _ = w9
                have HE9 := Lib.hid (show Ef w w9 x' r2 (.slice a2 A.length cap2) from by rw [← hw9]; exact HEd.out _)
                clear hw9 HEd
                have hrv := HE9.out.hv
                have hrz := HE9.out.hr
                rw [← Hws.out] at hrv hrz
                have Hrv := Lib.hid hrv
                have Hrz := Lib.hid hrz
                have HSx := Lib.hid (HSz.out x' hx5)
                have Hsz := Lib.hid (show (vrow (List.replicate 8 0)).size = (vrow x').size by rw [vrow_size, vrow_size, hx5]; rfl)
                have HG := Lib.hid (setRow_heap w9 (ws + 3) _ (vrow x') _ _ Hrz.out)
                have HB := Lib.hid (below_setRow (b := ws + 3) HE9.out.b (by have := Hws.out; omega) (vrow x'))
                have H1x := Lib.hid (vrow_one x')
                obtain ⟨X, hX⟩ : ∃ X, X = vrow x' := ⟨_, rfl⟩
                have R := Lib.hid (show ∃ y B, (Value.tuple #[.agg X, .bool false]) = .tuple #[.agg (vrow y), .bool B] ∧ ExR v (r, A) (r2, F) y B from ⟨x', false, by rw [hX], R.out⟩)
                rw [← hX] at Hrv HSx Hsz HG HB H1x
                clear hrv hrz hX
                go_wp2_with (first | (refine wpList_load_row rfl 94 (.tmp 3) rfl ws rfl 94 X (0, 0) _ Hrv.out und8 rfl HSx.out ?_) | (refine wpList_store_row rfl 94 (.tmp 6) (.tmp 67) rfl (ws + 3) X rfl rfl 94 _ Hrz.out HSx.out Hsz.out H1x.out ?_))
                refine bodyPost_ret (results_cell_tmp Try.results108 _ _ (ws + 3) 94 X (0, 0) _ rfl HG.out und8 rfl HSx.out) rfl ?_
                obtain ⟨y, B, r1, r2'⟩ := R.out
                exact ⟨⟨y, B, congrArg Ending.returned r1, r2'⟩, HB.out⟩
        · obtain rfl : k = A.length := by omega
          have R := Lib.hid (show ExR v (r, A) (r2, F) x true from ⟨hx, .inl ⟨rfl, by rw [HR.out, List.drop_eq_nil_of_le (by rw [List.length_zip]; omega)]; rfl⟩⟩)
          have hrv := HE.out.hv
          have hrz := HE.out.hr
          rw [← Hws.out] at hrv hrz
          have Hrv := Lib.hid hrv
          have Hrz := Lib.hid hrz
          have HSx := Lib.hid (HSz.out x Hx.out)
          have Hsz := Lib.hid (show (vrow (List.replicate 8 0)).size = (vrow x).size by rw [vrow_size, vrow_size, Hx.out]; rfl)
          have HG := Lib.hid (setRow_heap wr (ws + 3) _ (vrow x) _ _ Hrz.out)
          have HB := Lib.hid (below_setRow (b := ws + 3) HE.out.b (by have := Hws.out; omega) (vrow x))
          have H1x := Lib.hid (vrow_one x)
          obtain ⟨X, hX⟩ : ∃ X, X = vrow x := ⟨_, rfl⟩
          have R := Lib.hid (show ∃ y B, (Value.tuple #[.agg X, .bool true]) = .tuple #[.agg (vrow y), .bool B] ∧ ExR v (r, A) (r2, F) y B from ⟨x, true, by rw [hX], R.out⟩)
          rw [← hX] at Hrv HSx Hsz HG HB H1x
          clear hrv hrz hX
          go_wp2_with (first | (refine wpList_load_row rfl 94 (.tmp 3) rfl ws rfl 94 X (0, 0) _ Hrv.out und8 rfl HSx.out ?_) | (refine wpList_store_row rfl 94 (.tmp 6) (.tmp 79) rfl (ws + 3) X rfl rfl 94 _ Hrz.out HSx.out Hsz.out H1x.out ?_))
          refine bodyPost_ret (results_cell_tmp Try.results108 _ _ (ws + 3) 94 X (0, 0) _ rfl HG.out und8 rfl HSx.out) rfl ?_
          obtain ⟨y, B, r1, r2'⟩ := R.out
          exact ⟨⟨y, B, congrArg Ending.returned r1, r2'⟩, HB.out⟩
    · have q2 : ((A.length : Int) != (F.length : Int)) = true := by rw [bne_iff_ne]; omega
      have R := Lib.hid (show ExR v (r, A) (r2, F) v false from ⟨hv8, .inr ⟨rfl, by unfold extA; rw [if_neg (fun h => c2 h.2)]⟩⟩)
      clear c1
      have hrv := HE.out.hv
      have hrz := HE.out.hr
      rw [← Hws.out] at hrv hrz
      have Hrv := Lib.hid hrv
      have Hrz := Lib.hid hrz
      have HSx := Lib.hid (HSz.out v hv8)
      have Hsz := Lib.hid (show (vrow (List.replicate 8 0)).size = (vrow v).size by rw [vrow_size, vrow_size, hv8]; rfl)
      have HG := Lib.hid (setRow_heap w1 (ws + 3) _ (vrow v) _ _ Hrz.out)
      have HB := Lib.hid (below_setRow (b := ws + 3) HE.out.b (by have := Hws.out; omega) (vrow v))
      have H1x := Lib.hid (vrow_one v)
      obtain ⟨X, hX⟩ : ∃ X, X = vrow v := ⟨_, rfl⟩
      have R := Lib.hid (show ∃ y B, (Value.tuple #[.agg X, .bool false]) = .tuple #[.agg (vrow y), .bool B] ∧ ExR v (r, A) (r2, F) y B from ⟨v, false, by rw [hX], R.out⟩)
      rw [← hX] at Hrv HSx Hsz HG HB H1x
      clear hrv hrz hX
      go_wp2_with (first | (refine wpList_load_row rfl 94 (.tmp 3) rfl ws rfl 94 X (0, 0) _ Hrv.out und8 rfl HSx.out ?_) | (refine wpList_store_row rfl 94 (.tmp 6) (.tmp 24) rfl (ws + 3) X rfl rfl 94 _ Hrz.out HSx.out Hsz.out H1x.out ?_))
      refine bodyPost_ret (results_cell_tmp Try.results108 _ _ (ws + 3) 94 X (0, 0) _ rfl HG.out und8 rfl HSx.out) rfl ?_
      obtain ⟨y, B, r1, r2'⟩ := R.out
      exact ⟨⟨y, B, congrArg Ending.returned r1, r2'⟩, HB.out⟩
  · have q1 : (r != r2) = true := by rw [bne_iff_ne]; exact c1
    have R := Lib.hid (show ExR v (r, A) (r2, F) v false from ⟨hv8, .inr ⟨rfl, by unfold extA; rw [if_neg (fun h => c1 h.1)]⟩⟩)
    have hrv := HE.out.hv
    have hrz := HE.out.hr
    rw [← Hws.out] at hrv hrz
    have Hrv := Lib.hid hrv
    have Hrz := Lib.hid hrz
    have HSx := Lib.hid (HSz.out v hv8)
    have Hsz := Lib.hid (show (vrow (List.replicate 8 0)).size = (vrow v).size by rw [vrow_size, vrow_size, hv8]; rfl)
    have HG := Lib.hid (setRow_heap w1 (ws + 3) _ (vrow v) _ _ Hrz.out)
    have HB := Lib.hid (below_setRow (b := ws + 3) HE.out.b (by have := Hws.out; omega) (vrow v))
    have H1x := Lib.hid (vrow_one v)
    obtain ⟨X, hX⟩ : ∃ X, X = vrow v := ⟨_, rfl⟩
    have R := Lib.hid (show ∃ y B, (Value.tuple #[.agg X, .bool false]) = .tuple #[.agg (vrow y), .bool B] ∧ ExR v (r, A) (r2, F) y B from ⟨v, false, by rw [hX], R.out⟩)
    rw [← hX] at Hrv HSx Hsz HG HB H1x
    clear hrv hrz hX
    go_wp2_with (first | (refine wpList_load_row rfl 94 (.tmp 3) rfl ws rfl 94 X (0, 0) _ Hrv.out und8 rfl HSx.out ?_) | (refine wpList_store_row rfl 94 (.tmp 6) (.tmp 24) rfl (ws + 3) X rfl rfl 94 _ Hrz.out HSx.out Hsz.out H1x.out ?_))
    refine bodyPost_ret (results_cell_tmp Try.results108 _ _ (ws + 3) 94 X (0, 0) _ rfl HG.out und8 rfl HSx.out) rfl ?_
    obtain ⟨y, B, r1, r2'⟩ := R.out
    exact ⟨⟨y, B, congrArg Ending.returned r1, r2'⟩, HB.out⟩
#print axioms fitR_any
end Go.Proofs.Ytfplmdieeabgpaa

/- Contract of View. -/
import Derived.Test.YtpehbffkplmfjaaFvw
import Derived.Test.YtpehbffkplmfjaaOrd
namespace Go.Proofs.Ytpehbffkplmfjaa
open Go.RowKit
/-- the view of a history's committed part -/
def goV (h : List NOp) : Nat → Nat → Nat
  | 0 => fun _ => 0
  | n + 1 => if lv h h.length (7 + tT h n) ≠ 40 then doV h n (goV h n) else goV h n
/-- the first view equivalent order -/
def vwN (h : List NOp) : Option (List Nat) := fvF h (goV h h.length) (comN h 7).length (comN h 7) [] fun _ => 0
theorem ints46 : ints 46 (fun _ => 0) = #[Value.int .i64 0, Value.int .i64 0, Value.int .i64 0, Value.int .i64 0, Value.int .i64 0, Value.int .i64 0, Value.int .i64 0, Value.int .i64 0, Value.int .i64 0, Value.int .i64 0, Value.int .i64 0, Value.int .i64 0, Value.int .i64 0, Value.int .i64 0, Value.int .i64 0, Value.int .i64 0, Value.int .i64 0, Value.int .i64 0, Value.int .i64 0, Value.int .i64 0, Value.int .i64 0, Value.int .i64 0, Value.int .i64 0, Value.int .i64 0, Value.int .i64 0, Value.int .i64 0, Value.int .i64 0, Value.int .i64 0, Value.int .i64 0, Value.int .i64 0, Value.int .i64 0, Value.int .i64 0, Value.int .i64 0, Value.int .i64 0, Value.int .i64 0, Value.int .i64 0, Value.int .i64 0, Value.int .i64 0, Value.int .i64 0, Value.int .i64 0, Value.int .i64 0, Value.int .i64 0, Value.int .i64 0, Value.int .i64 0, Value.int .i64 0, Value.int .i64 0] := rfl
set_option maxRecDepth 100000 in
set_option maxHeartbeats 4000000 in
theorem view_bad {l : List HOp} (hn : ¬ ValidH l) (v : Value) (w : World) (hv : Ops w v l) :
    Calls Try.prog 28 #[v] w fun e w' => e = .returned (.tuple #[.slice none 0 0, .int .i64 2]) ∧ Below w.heap.size w w' := by
  have HV := Lib.hid (valid_any l v w hv)
  rw [decide_eq_false hn] at HV
  obtain ⟨a, c, rfl⟩ := ops_slice hv
  clear hv hn
  go_enter Try.func28, Try.ntmps28
  go_wp2_with fail
  refine HV.out.mono ?_
  rintro e w1 ⟨rfl, hb1⟩
  have Hb1 := Lib.hid hb1
  clear hb1
  go_wp2_with fail
  go_ret2
  exact ⟨rfl, Hb1.out⟩
set_option maxRecDepth 100000 in
set_option maxHeartbeats 8000000 in
theorem view_any {h : List NOp} (hh : VH h) (v : Value) (w : World) (hv : Ops w v (castO h)) :
    Calls Try.prog 28 #[v] w fun e w' => ∃ v', e = .returned (.tuple #[v', .int .i64 (if (vwN h).isSome then 0 else 5)]) ∧ Ints w' v' (castN ((vwN h).getD [])) ∧ Below w.heap.size w w' := by
  have HV := Lib.hid (valid_any (castO h) v w hv)
  rw [decide_eq_true (valid_of hh)] at HV
  obtain ⟨a, c, rfl⟩ := ops_slice hv
  rw [castO_length] at hv HV ⊢
  have HL := Lib.hid (fun w' (hb : Below w.heap.size w w') => livesOf_any hh (.slice a h.length c) w' (Ops.keep hv hb))
  have Hv := Lib.hid hv
  have HH := Lib.hid hh
  obtain ⟨E, hE⟩ : ∃ E : Int, E = if (vwN h).isSome then (0 : Int) else 5 := ⟨_, rfl⟩
  rw [← hE]
  have HE := Lib.hid hE
  clear hv hh hE
  go_enter Try.func28, Try.ntmps28
  go_wp2_with fail
  refine HV.out.mono ?_
  rintro e w1 ⟨rfl, hb1⟩
  have Hb1 := Lib.hid hb1
  have HL1 := Lib.hid (HL.out w1 hb1)
  clear hb1 HL HV
  go_wp2_with fail
  refine HL1.out.mono ?_
  rintro e w2 ⟨rfl, hb2⟩
  have Hb2 := Lib.hid (Below.tr Hb1.out hb2)
  clear hb2 HL1
  have hla : livA h = row 21 (lvF h h.length) := rfl
  rw [hla]
  have hLs : (Try.prog.info? 70).map (·.size) = some (row 21 (lvF h h.length)).size := by rw [row_size]; exact sizeLives
  have hL1 := row_one h h.length
  have hZ : #[Value.int .i64 0, .int .i64 0, .int .i64 0, .int .i64 0, .int .i64 0, .int .i64 0, .int .i64 0, .int .i64 0, .int .i64 0, .int .i64 0, .int .i64 0, .int .i64 0, .int .i64 0, .int .i64 0, .int .i64 0, .int .i64 0, .int .i64 0, .int .i64 0, .int .i64 0, .int .i64 0, .int .i64 0].size = (row 21 (lvF h h.length)).size := by rw [row_size]; rfl
  have HBk := Lib.hid (fun w : World => show Blk ((w.alloc (.cells #[.int .i64 0, .int .i64 0, .int .i64 0, .int .i64 0, .int .i64 0, .int .i64 0, .int .i64 0, .int .i64 0, .int .i64 0, .int .i64 0, .int .i64 0, .int .i64 0, .int .i64 0, .int .i64 0, .int .i64 0, .int .i64 0, .int .i64 0, .int .i64 0, .int .i64 0, .int .i64 0, .int .i64 0] 70)).setRow w.heap.size (row 21 (lvF h h.length))) w.heap.size 70 21 (lvF h h.length) from (blk_new w 70 21 fun _ => .int .i64 0).setRow _)
  have HLs := Lib.hid hLs
  have HL1 := Lib.hid hL1
  have HZ := Lib.hid hZ
  generalize hL : row 21 (lvF h h.length) = L at *
  have HLe := Lib.hid hL
  clear hL hLs hL1 hZ hla
  go_upto_region 4 with (refine wpList_store_row rfl 70 (.tmp 4) (.tmp 14) rfl w2.heap.size L rfl rfl 70 _ (heap_alloc_new _ _) HLs.out HZ.out HL1.out ?_; have HB3 := Lib.hid (HBk.out w2); have Hb3 := Lib.hid (show Below w.heap.size w ((w2.alloc (.cells #[.int .i64 0, .int .i64 0, .int .i64 0, .int .i64 0, .int .i64 0, .int .i64 0, .int .i64 0, .int .i64 0, .int .i64 0, .int .i64 0, .int .i64 0, .int .i64 0, .int .i64 0, .int .i64 0, .int .i64 0, .int .i64 0, .int .i64 0, .int .i64 0, .int .i64 0, .int .i64 0, .int .i64 0] 70)).setRow w2.heap.size L) from below_setRow (Below.tr Hb2.out (below_alloc _ _)) Hb2.out.size _); generalize (w2.alloc (.cells #[.int .i64 0, .int .i64 0, .int .i64 0, .int .i64 0, .int .i64 0, .int .i64 0, .int .i64 0, .int .i64 0, .int .i64 0, .int .i64 0, .int .i64 0, .int .i64 0, .int .i64 0, .int .i64 0, .int .i64 0, .int .i64 0, .int .i64 0, .int .i64 0, .int .i64 0, .int .i64 0, .int .i64 0] 70)).setRow w2.heap.size L = w3 at *)
  clear HBk HLs HL1 HZ
  generalize w2.heap.size = pb at *
  simp only [Act.put]
  have HM := Lib.hid (fun w' => committed_any h w')
  rw [show livA h = L from HLe.out] at HM
  have h40 := HH.out.le
  obtain ⟨a3, b3, off3, cap3, hv3, hle3, ha3, hcap3, hc3⟩ := Ops.nat Hv.out
  injection hv3 with e1 _ e3
  subst e1 e3
  have hixo := run_ix (P := Try.prog) (t := 29) (a := a) (len := h.length) (cap := c) (b := b3) (off := off3) (s := 3) Try.underlying29 (by intro w; kernel_rfl) ha3
  have Hc3 := Lib.hid hc3
  have Hixo := Lib.hid hixo
  have HB4 := Lib.hid (show VwB (w3.alloc (.cells #[Value.int .i64 0, Value.int .i64 0, Value.int .i64 0, Value.int .i64 0, Value.int .i64 0, Value.int .i64 0, Value.int .i64 0, Value.int .i64 0, Value.int .i64 0, Value.int .i64 0, Value.int .i64 0, Value.int .i64 0, Value.int .i64 0, Value.int .i64 0, Value.int .i64 0, Value.int .i64 0, Value.int .i64 0, Value.int .i64 0, Value.int .i64 0, Value.int .i64 0, Value.int .i64 0, Value.int .i64 0, Value.int .i64 0, Value.int .i64 0, Value.int .i64 0, Value.int .i64 0, Value.int .i64 0, Value.int .i64 0, Value.int .i64 0, Value.int .i64 0, Value.int .i64 0, Value.int .i64 0, Value.int .i64 0, Value.int .i64 0, Value.int .i64 0, Value.int .i64 0, Value.int .i64 0, Value.int .i64 0, Value.int .i64 0, Value.int .i64 0, Value.int .i64 0, Value.int .i64 0, Value.int .i64 0, Value.int .i64 0, Value.int .i64 0, Value.int .i64 0] 88)) w3.heap.size (goV h 0) from blk_new w3 88 46 fun _ => .int .i64 0)
  have HL4 := Lib.hid (show Blk (w3.alloc (.cells #[Value.int .i64 0, Value.int .i64 0, Value.int .i64 0, Value.int .i64 0, Value.int .i64 0, Value.int .i64 0, Value.int .i64 0, Value.int .i64 0, Value.int .i64 0, Value.int .i64 0, Value.int .i64 0, Value.int .i64 0, Value.int .i64 0, Value.int .i64 0, Value.int .i64 0, Value.int .i64 0, Value.int .i64 0, Value.int .i64 0, Value.int .i64 0, Value.int .i64 0, Value.int .i64 0, Value.int .i64 0, Value.int .i64 0, Value.int .i64 0, Value.int .i64 0, Value.int .i64 0, Value.int .i64 0, Value.int .i64 0, Value.int .i64 0, Value.int .i64 0, Value.int .i64 0, Value.int .i64 0, Value.int .i64 0, Value.int .i64 0, Value.int .i64 0, Value.int .i64 0, Value.int .i64 0, Value.int .i64 0, Value.int .i64 0, Value.int .i64 0, Value.int .i64 0, Value.int .i64 0, Value.int .i64 0, Value.int .i64 0, Value.int .i64 0, Value.int .i64 0] 88)) pb 70 21 (lvF h h.length) from Blk.keep HB3.out (below_alloc _ _))
  have Hb4 := Lib.hid (show Below w.heap.size w (w3.alloc (.cells #[Value.int .i64 0, Value.int .i64 0, Value.int .i64 0, Value.int .i64 0, Value.int .i64 0, Value.int .i64 0, Value.int .i64 0, Value.int .i64 0, Value.int .i64 0, Value.int .i64 0, Value.int .i64 0, Value.int .i64 0, Value.int .i64 0, Value.int .i64 0, Value.int .i64 0, Value.int .i64 0, Value.int .i64 0, Value.int .i64 0, Value.int .i64 0, Value.int .i64 0, Value.int .i64 0, Value.int .i64 0, Value.int .i64 0, Value.int .i64 0, Value.int .i64 0, Value.int .i64 0, Value.int .i64 0, Value.int .i64 0, Value.int .i64 0, Value.int .i64 0, Value.int .i64 0, Value.int .i64 0, Value.int .i64 0, Value.int .i64 0, Value.int .i64 0, Value.int .i64 0, Value.int .i64 0, Value.int .i64 0, Value.int .i64 0, Value.int .i64 0, Value.int .i64 0, Value.int .i64 0, Value.int .i64 0, Value.int .i64 0, Value.int .i64 0, Value.int .i64 0] 88)) from Below.tr Hb3.out (below_alloc _ _))
  have Hpg := Lib.hid (show pb < w3.heap.size from HB3.out.lt)
  have Hwg := Lib.hid Hb3.out.size
  clear hc3 hixo ha3 hle3 hcap3
  go_wp2_with fail
  generalize w3.alloc (.cells #[Value.int .i64 0, Value.int .i64 0, Value.int .i64 0, Value.int .i64 0, Value.int .i64 0, Value.int .i64 0, Value.int .i64 0, Value.int .i64 0, Value.int .i64 0, Value.int .i64 0, Value.int .i64 0, Value.int .i64 0, Value.int .i64 0, Value.int .i64 0, Value.int .i64 0, Value.int .i64 0, Value.int .i64 0, Value.int .i64 0, Value.int .i64 0, Value.int .i64 0, Value.int .i64 0, Value.int .i64 0, Value.int .i64 0, Value.int .i64 0, Value.int .i64 0, Value.int .i64 0, Value.int .i64 0, Value.int .i64 0, Value.int .i64 0, Value.int .i64 0, Value.int .i64 0, Value.int .i64 0, Value.int .i64 0, Value.int .i64 0, Value.int .i64 0, Value.int .i64 0, Value.int .i64 0, Value.int .i64 0, Value.int .i64 0, Value.int .i64 0, Value.int .i64 0, Value.int .i64 0, Value.int .i64 0, Value.int .i64 0, Value.int .i64 0, Value.int .i64 0] 88) = w4 at *
  generalize w3.heap.size = gb at *
  go_loopw [19] (fun vi wr => ∃ i : Nat, vi = .int .i64 i ∧ i ≤ h.length ∧ Below w.heap.size w wr ∧ Blk wr pb 70 21 (lvF h h.length) ∧ VwB wr gb (goV h i)) (fun vi _ => h.length - (intOf vi).toNat)
  case atStart => exact ⟨0, rfl, Nat.zero_le _, Hb4.out, HL4.out, HB4.out⟩
  case round =>
    obtain ⟨j, rfl, hj, hb, hL, hB⟩ := hrel
    obtain ⟨wC, hwC⟩ : ∃ wC : World, wC = wr := ⟨_, rfl⟩
    subst hwC
    have HbC := Lib.hid hb
    have HLC := Lib.hid hL
    have HBC := Lib.hid hB
    clear hb hL hB
    by_cases hjl : j < h.length
    · have hd1 := Below.keep HbC.out (Hc3.out j hjl).1
      have hd2 := Below.keep HbC.out (Hc3.out j hjl).2.1
      have hd3 := Below.keep HbC.out (Hc3.out j hjl).2.2
      have hixj := Hixo.out j
      have hs6 := HH.out.t6 j hjl
      have HDT := Lib.hid (show goV h (j + 1) = if lv h h.length (7 + tT h j) ≠ 40 then doV h j (goV h j) else goV h j from rfl)
      obtain ⟨s, hs⟩ : ∃ s, s = tT h j := ⟨_, rfl⟩
      obtain ⟨r, hr⟩ : ∃ r, r = tK h j := ⟨_, rfl⟩
      obtain ⟨y, hy⟩ : ∃ y, y = tI h j := ⟨_, rfl⟩
      rw [← hs] at hd1 HDT hs6
      rw [← hr] at hd2
      rw [← hy] at hd3
      obtain ⟨hs1, hs2⟩ := hs6
      clear hs hr hy
      have e0 := cell_new wC #[.int .i64 s, .int .i64 r, .int .i64 y] 58 0
      have HbD := Lib.hid (show Below w.heap.size w (wC.alloc (.cells #[.int .i64 s, .int .i64 r, .int .i64 y] 58)) from Below.tr HbC.out (below_alloc _ _))
      have HBD := Lib.hid (show VwB (wC.alloc (.cells #[.int .i64 s, .int .i64 r, .int .i64 y] 58)) gb (goV h j) from Blk.keep HBC.out (below_alloc _ _))
      have HLD := Lib.hid (show Blk (wC.alloc (.cells #[.int .i64 s, .int .i64 r, .int .i64 y] 58)) pb 70 21 (lvF h h.length) from Blk.keep HLC.out (below_alloc _ _))
      have v1 := HLD.out.at (show 7 + s < 21 by omega)
      unfold lvF at v1
      obtain ⟨ci, hci⟩ : ∃ ci, ci = lv h h.length (7 + s) := ⟨_, rfl⟩
      rw [← hci] at v1 HDT
      have hti : (s : Int) < 7 := by omega
      have ht0 : (0 : Int) ≤ (s : Int) := by omega
      clear hci
      by_cases f1 : ci = 40
      · have q1 : ((ci : Int) != 40) = false := by rw [bne_eq_false_iff_eq]; omega
        have HDV := Lib.hid (HDT.out.trans (if_neg (fun q => q f1)))
        clear f1
        go_wp2_with fail
        go_roundw
        case rel => exact ⟨j + 1, by go_num, by omega, HbD.out, HLD.out, by rw [HDV.out]; exact HBD.out⟩
        case measure => simp [intOf]; omega
      · have q1 : ((ci : Int) != 40) = true := by rw [bne_iff_ne]; omega
        have HDV := Lib.hid (HDT.out.trans (if_pos f1))
        clear f1
        go_wp2_with fail
        refine (do_any HH.out hjl (.slice a h.length c) _ (Ops.keep Hv.out HbD.out) HBD.out).mono ?_
        rintro e w5 ⟨rfl, hB5, hg5⟩
        have Hb5 := Lib.hid (grown_below2 HbD.out hg5 Hwg.out)
        have HB5 := Lib.hid hB5
        have HL5 := Lib.hid (Blk.grown HLD.out hg5 (by have := Hpg.out; omega))
        clear hB5 hg5 hd1 hd2 hd3 e0
        go_wp2_with fail
        go_roundw
        case rel => exact ⟨j + 1, by go_num, by omega, Hb5.out, HL5.out, by rw [HDV.out]; exact HB5.out⟩
        case measure => simp [intOf]; omega
    · obtain rfl : j = h.length := by omega
      go_wp2_with (refine wpList_load_row rfl 70 (.tmp 4) rfl pb rfl 70 L (0, 0) _ (by rw [← HLe.out]; exact HLC.out) Try.underlying70 rfl (by rw [← HLe.out, row_size]; exact sizeLives) ?_)
      refine (HM.out _).mono ?_
      rintro e w6 ⟨v6, rfl, hI6, hb6⟩
      have HF := Lib.hid (firstView_any HH.out (Ops.keep Hv.out HbC.out) HBC.out (comN h 7).length (comN h 7) [] rfl (by have := comN_le h 7; simp; omega) (fun _ => 0) v6 (.slice none 0 0) w6 hb6 hI6 (ownInts_nil _ _) (fun g _ e => by cases e))
      rw [ints46] at HF
      have Hb6 := Lib.hid (Below.tr HbC.out hb6)
      clear hI6
      go_wp2_with fail
      refine HF.out.mono ?_
      rintro e w7 ⟨v7, rfl, hI7, _, hb7, _⟩
      have HI7 := Lib.hid (show ∀ x, vwN h = some x → Ints w7 v7 (castN x) from hI7)
      have Hb7 := Lib.hid (Below.tr HbC.out hb7)
      rw [show (fvF h (goV h h.length) (comN h 7).length (comN h 7) [] fun _ => 0).isSome = (vwN h).isSome from rfl]
      clear hb6 hI7 hb7 HF
      cases hR : vwN h with
      | some x =>
        have HEz := Lib.hid (show E = 0 by rw [HE.out, hR]; rfl)
        have HIx := Lib.hid (HI7.out x hR)
        have HR := Lib.hid hR
        go_wp2_with fail
        go_ret2
        exact ⟨_, by rw [HEz.out]; rfl, by rw [HR.out]; exact HIx.out, Hb7.out⟩
      | none =>
        have HEz := Lib.hid (show E = 5 by rw [HE.out, hR]; rfl)
        have HR := Lib.hid hR
        go_wp2_with fail
        go_ret2
        exact ⟨_, by rw [HEz.out]; rfl, by rw [HR.out]; exact ints_nil _, Hb7.out⟩
#print axioms view_any
end Go.Proofs.Ytpehbffkplmfjaa

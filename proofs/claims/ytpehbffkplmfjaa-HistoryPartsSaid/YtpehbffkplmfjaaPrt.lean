/- Contract of the reference's part: the operations of committed transactions. -/
import Derived.Test.YtpehbffkplmfjaaCmr
namespace Go.Proofs.Ytpehbffkplmfjaa
open Go.RowKit
/-- the operations of committed transactions, of the first k -/
def partTo (h : List NOp) (k : Nat) : List NOp := (h.take k).filter fun d => decide (endI h 2 d.1 ≥ 0)
def partN (h : List NOp) : List NOp := h.filter fun d => decide (endI h 2 d.1 ≥ 0)
theorem nop_get {h : List NOp} {k : Nat} (hk : k < h.length) : h[k] = (tT h k, tK h k, tI h k) := by simp [tT, tK, tI, hk]
theorem partTo_step {h : List NOp} {k : Nat} (hk : k < h.length) : partTo h (k + 1) = if endI h 2 (tT h k) ≥ 0 then partTo h k ++ [(tT h k, tK h k, tI h k)] else partTo h k := by
  unfold partTo
  rw [List.take_succ_eq_append_getElem hk, List.filter_append, nop_get hk]
  by_cases e : endI h 2 (tT h k) ≥ 0
  · rw [if_pos e]; simp [e]
  · rw [if_neg e]; simp [e]
theorem partTo_le (h : List NOp) (k : Nat) : (partTo h k).length ≤ k := by
  have h1 := List.length_filter_le (fun d : NOp => decide (endI h 2 d.1 ≥ 0)) (h.take k)
  have h2 : (h.take k).length ≤ k := List.length_take_le _ _
  unfold partTo
  omega
theorem castO_snoc (h : List NOp) (t q x : Nat) : castO (h ++ [(t, q, x)]) = castO h ++ [((t : Int), (q : Int), (x : Int))] := by simp [castO]
set_option maxRecDepth 100000 in
set_option maxHeartbeats 4000000 in
theorem part_any {h : List NOp} (hh : VH h) (v : Value) (w : World) (hv : Ops w v (castO h)) :
    Calls Try.prog 95 #[v] w fun e w' => ∃ v', e = .returned v' ∧ OwnOps 55 w.heap.size w' v' (castO (partN h)) ∧ Below w.heap.size w w' := by
  have HE := Lib.hid (fun (t : Nat) (w' : World) (hb : Below w.heap.size w w') => end_any hh (q := 2) (by omega) t v w' (Ops.keep hv hb))
  obtain ⟨a, b, off, cap, rfl, hle, ha, hcap, hc⟩ := Ops.nat hv
  have hix := run_ix (P := Try.prog) (t := 23) (a := a) (len := h.length) (cap := cap) (b := b) (off := off) (s := 3) Try.underlying23 (by intro w; kernel_rfl) ha
  have h40 := hh.le
  have Hc := Lib.hid hc
  have Hix := Lib.hid hix
  have Hs := Lib.hid (fun (k : Nat) (hk : k < h.length) => partTo_step hk)
  have Hl := Lib.hid (partTo_le h)
  have Hfin := Lib.hid (show partTo h h.length = partN h from by unfold partTo partN; rw [List.take_length])
  clear ha hv hc hix hcap hh hle
  go_enter Try.func95, Try.ntmps95
  go_wp2_with fail
  go_loopw [3, 8] (fun o i wr => ∃ k : Nat, i = .int .i64 k ∧ k ≤ h.length ∧ Below w.heap.size w wr ∧ OwnOps 55 w.heap.size wr o (castO (partTo h k))) (fun _ i _ => h.length - (intOf i).toNat)
  case atStart => exact ⟨0, rfl, Nat.zero_le _, Below.refl _ _, ownOps_nil _ _ _⟩
  case round =>
    obtain ⟨k, rfl, hk, hb, hown⟩ := hrel
    have Hb := Lib.hid hb
    have Hown := Lib.hid hown
    clear hb hown
    by_cases hlt : k < h.length
    · have hc1 := Below.keep Hb.out (Hc.out k hlt).1
      have hc2 := Below.keep Hb.out (Hc.out k hlt).2.1
      have hc3 := Below.keep Hb.out (Hc.out k hlt).2.2
      have hixk := Hix.out k
      have HS1 := Lib.hid (Hs.out k hlt)
      have HL1 := Lib.hid (Hl.out k)
      obtain ⟨t, ht⟩ : ∃ s, s = tT h k := ⟨_, rfl⟩
      obtain ⟨q, hq⟩ : ∃ r, r = tK h k := ⟨_, rfl⟩
      obtain ⟨x, hx⟩ : ∃ x, x = tI h k := ⟨_, rfl⟩
      rw [← ht] at hc1 HS1
      rw [← hq] at hc2 HS1
      rw [← hx] at hc3 HS1
      clear ht hq hx
      have hbn := below_alloc wr (.cells #[.int .i64 t, .int .i64 q, .int .i64 x] 55)
      have Hb1 := Lib.hid (Below.tr Hb.out hbn)
      have Hown1 := Lib.hid (Hown.out.keep hbn)
      have HE1 := Lib.hid (HE.out t _ Hb1.out)
      have G0 := Lib.hid (show (wr.alloc (.cells #[.int .i64 t, .int .i64 q, .int .i64 x] 55)).cell? ⟨wr.heap.size, 0, none⟩ = some (.int .i64 t) from cell_new wr _ _ 0)
      have G1 := Lib.hid (show (wr.alloc (.cells #[.int .i64 t, .int .i64 q, .int .i64 x] 55)).cell? ⟨wr.heap.size, 1, none⟩ = some (.int .i64 q) from cell_new wr _ _ 1)
      have G2 := Lib.hid (show (wr.alloc (.cells #[.int .i64 t, .int .i64 q, .int .i64 x] 55)).cell? ⟨wr.heap.size, 2, none⟩ = some (.int .i64 x) from cell_new wr _ _ 2)
      obtain ⟨z, hz⟩ : ∃ z, z = endI h 2 t := ⟨_, rfl⟩
      rw [← hz] at HE1 HS1
      clear hz hbn HE
      by_cases hz0 : 0 ≤ z
      · have R := Lib.hid (HS1.out.trans (if_pos hz0))
        go_wp2_with fail
        refine HE1.out.mono ?_
        rintro e w1 ⟨rfl, hb1⟩
        have Hb2 := Lib.hid (Below.tr Hb1.out hb1)
        have Hown2 := Lib.hid (Hown1.out.keep hb1)
        have g0 := Below.keep hb1 G0.out
        have g1 := Below.keep hb1 G1.out
        have g2 := Below.keep hb1 G2.out
        clear hb1 hc1 hc2 hc3 hixk
        go_wp2_with (at_builtin; refine append_own rfl (.tmp 17) (.tmp 19) 23 rfl elemOpsR rfl (World.ownsRow.alloc Hown2.out _) [.int .i64 t, .int .i64 q, .int .i64 x] rfl rfl ?c1 ?c2 ?c3 ?c4 ?_)
        case c1 =>
          intro j u hj
          rw [cell_new]
          simpa using hj
        case c2 => intro u hu; simp at hu; rcases hu with rfl | rfl | rfl <;> rfl
        case c3 => have := HL1.out; rw [castO_length]; omega
        case c4 => have := Hb2.out.size; simp; omega
        intro v2 w2 r1 r2 _
        have HO := Lib.hid (show OwnOps 55 w.heap.size w2 v2 (castO (partTo h (k + 1))) from by
          rw [R.out, castO_snoc]
          exact OwnOps.snoc r1)
        have HB := Lib.hid (show Below w.heap.size w w2 from (Below.tr Hb2.out (below_alloc _ _)).trans r2)
        clear r1 r2
        go_wp2_with fail
        go_roundw
        case rel => exact ⟨k + 1, by go_num, by omega, HB.out, HO.out⟩
        case measure => simp [intOf]; omega
      · have R := Lib.hid (HS1.out.trans (if_neg hz0))
        go_wp2_with fail
        refine HE1.out.mono ?_
        rintro e w1 ⟨rfl, hb1⟩
        have Hb2 := Lib.hid (Below.tr Hb1.out hb1)
        have Hown2 := Lib.hid (Hown1.out.keep hb1)
        clear hb1 hc1 hc2 hc3 hixk
        go_wp2_with fail
        go_roundw
        case rel => exact ⟨k + 1, by go_num, by omega, Hb2.out, by rw [R.out]; exact Hown2.out⟩
        case measure => simp [intOf]; omega
    · obtain rfl : k = h.length := by omega
      go_wp2_with fail
      go_ret
      exact ⟨_, rfl, by rw [← Hfin.out]; exact Hown.out, Hb.out⟩
#print axioms part_any
end Go.Proofs.Ytpehbffkplmfjaa

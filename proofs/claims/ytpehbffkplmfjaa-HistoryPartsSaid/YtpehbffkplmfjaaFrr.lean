/- Contracts of From and of the reference's From. -/
import Derived.Test.YtpehbffkplmfjaaEnd
namespace Go.Proofs.Ytpehbffkplmfjaa
open Go.RowKit

set_option maxRecDepth 100000 in
set_option maxHeartbeats 4000000 in
theorem fromE_bad {l : List HOp} (hn : ¬ ValidH l) (v : Value) (w : World) (hv : Ops w v l) :
    Calls Try.prog 17 #[v] w fun e w' => e = .returned (.tuple #[.slice none 0 0, .int .i64 2]) ∧ Below w.heap.size w w' := by
  have HV := Lib.hid (valid_any l v w hv)
  rw [decide_eq_false hn] at HV
  obtain ⟨a, c, rfl⟩ := ops_slice hv
  clear hv hn
  go_enter Try.func17, Try.ntmps17
  go_wp2_with fail
  refine HV.out.mono ?_
  rintro e w1 ⟨rfl, hb1⟩
  have Hb1 := Lib.hid hb1
  clear hb1
  go_wp2_with fail
  go_ret2
  exact ⟨rfl, Hb1.out⟩
set_option maxRecDepth 100000 in
set_option maxHeartbeats 4000000 in
theorem fromE_any {h : List NOp} (hh : VH h) (v : Value) (w : World) (hv : Ops w v (castO h)) :
    Calls Try.prog 17 #[v] w fun e w' => ∃ v', e = .returned (.tuple #[v', .int .i64 0]) ∧ Ints w' v' (froms h) ∧ Below w.heap.size w w' := by
  have HV := Lib.hid (valid_any (castO h) v w hv)
  rw [decide_eq_true (valid_of hh)] at HV
  have HF := Lib.hid (fun w' (hb : Below w.heap.size w w') => from_any hh v w' (Ops.keep hv hb))
  obtain ⟨a, c, rfl⟩ := ops_slice hv
  clear hv hh
  go_enter Try.func17, Try.ntmps17
  go_wp2_with fail
  refine HV.out.mono ?_
  rintro e w1 ⟨rfl, hb1⟩
  have Hb1 := Lib.hid hb1
  have HF1 := Lib.hid (HF.out w1 hb1)
  clear hb1 HF HV
  go_wp2_with fail
  refine HF1.out.mono ?_
  rintro e w2 ⟨v2, rfl, hI, hb2⟩
  have HI := Lib.hid hI
  have Hb2 := Lib.hid (Below.tr Hb1.out hb2)
  clear hI hb2 HF1
  go_wp2_with fail
  go_ret2
  exact ⟨_, rfl, HI.out, Hb2.out⟩
theorem froms_step (h : List NOp) {k : Nat} (hk : k < h.length) : (froms h).take (k + 1) = (froms h).take k ++ [frm h k] := by
  rw [List.take_succ_eq_append_getElem (by simp [froms]; exact hk)]
  congr 2
  simp [froms]
theorem froms_length (h : List NOp) : (froms h).length = h.length := by simp [froms]
/-- 'aborted later or not at all', as the reference says it -/
theorem endI_abo {h : List NOp} (hh : VH h) {i t : Nat} (hi : i < h.length) (h0 : tK h i = 0) : (endI h 3 t < 0 ∨ endI h 3 t > (i : Int)) ↔ i ≤ en h 3 h.length t := by
  have hl := hh.le
  unfold endI
  rcases en_spec h 3 t h.length hh.le with h1 | h1
  · rw [if_pos h1.1, h1.1]; constructor
    · intro _; omega
    · intro _; omega
  · rw [if_neg (by omega)]
    have : en h 3 h.length t ≠ i := fun e => by rw [e] at h1; omega
    constructor
    · rintro (h2 | h2) <;> omega
    · intro h2; omega
set_option maxRecDepth 100000 in
set_option maxHeartbeats 8000000 in
theorem fromR_any {h : List NOp} (hh : VH h) (v : Value) (w : World) (hv : Ops w v (castO h)) :
    Calls Try.prog 23 #[v] w fun e w' => ∃ v', e = .returned v' ∧ OwnInts w.heap.size w' v' (froms h) ∧ Below w.heap.size w w' := by
  have Hv := Lib.hid hv
  obtain ⟨a, b, off, cap, rfl, hle, ha, hcap, hc⟩ := Ops.nat hv
  have hix := run_ix (P := Try.prog) (t := 23) (a := a) (len := h.length) (cap := cap) (b := b) (off := off) (s := 3) Try.underlying23 (by intro w; kernel_rfl) ha
  have hixj := fun n (hn : n ≤ h.length) => run_ix (P := Try.prog) (t := 23) (a := a) (len := n) (cap := cap) (b := b) (off := off) (s := 3) Try.underlying23 (by intro w; kernel_rfl) (fun h => ha (by omega))
  have hsub := fun k (hk : k ≤ h.length) w => Ops.sub (P := Try.prog) (a := a) (k := k) Try.underlying23 (by intro w; kernel_rfl) hcap hk w
  have h40 := hh.le
  have Hc := Lib.hid hc
  have Hix := Lib.hid hix
  have Hixj := Lib.hid hixj
  have Hsub := Lib.hid hsub
  have HH := Lib.hid hh
  clear ha hv hc hix hcap hh hle hixj hsub
  go_enter Try.func23, Try.ntmps23
  go_wp2_with fail
  go_loopw [3, 12] (fun o i wr => ∃ k : Nat, i = .int .i64 k ∧ k ≤ h.length ∧ Below w.heap.size w wr ∧ OwnInts w.heap.size wr o ((froms h).take k)) (fun _ i _ => h.length - (intOf i).toNat)
  case atStart => exact ⟨0, rfl, Nat.zero_le _, Below.refl _ _, ownInts_nil _ _⟩
  case round =>
    obtain ⟨k, rfl, hk, hb, hown⟩ := hrel
    have Hb := Lib.hid hb
    have Hown := Lib.hid hown
    clear hb hown
    by_cases hlt : k < h.length
    · have hc1 := Below.keep Hb.out (Hc.out k hlt).1
      have hc2 := Below.keep Hb.out (Hc.out k hlt).2.1
      have hc3 := Below.keep Hb.out (Hc.out k hlt).2.2
      have hixk := Hix.out k
      have hsk := Hsub.out k hk
      have HfY := Lib.hid (show tK h k = 0 → frm h k = (lw h k (tI h k) k : Nat) from fun e => if_pos e)
      have HfN := Lib.hid (show tK h k ≠ 0 → frm h k = -1 from fun e => if_neg e)
      have Hst := Lib.hid (froms_step h hlt)
      have Hlen := Lib.hid (show ((froms h).take k).length = k by simp [froms]; omega)
      have Hab := Lib.hid (fun (t : Nat) (e : tK h k = 0) => endI_abo HH.out (t := t) hlt e)
      obtain ⟨T, hT⟩ : ∃ T, T = (froms h).take k := ⟨_, rfl⟩
      rw [← hT] at Hown Hst Hlen
      obtain ⟨s, hs⟩ : ∃ s, s = tT h k := ⟨_, rfl⟩
      obtain ⟨r, hr⟩ : ∃ r, r = tK h k := ⟨_, rfl⟩
      obtain ⟨x, hx⟩ : ∃ x, x = tI h k := ⟨_, rfl⟩
      rw [← hs] at hc1
      rw [← hr] at hc2 HfY HfN Hab
      rw [← hx] at hc3 HfY
      clear hs hr hx hT
      have Hb1 := Lib.hid (show Below w.heap.size w (wr.alloc (.cells #[.int .i64 s, .int .i64 r, .int .i64 x] 55)) from Below.tr Hb.out (below_alloc _ _))
      have Hown1 := Lib.hid (Hown.out.keep (below_alloc wr (.cells #[.int .i64 s, .int .i64 r, .int .i64 x] 55)))
      by_cases e0 : r = 0
      · have q0 : ((r : Int) == 0) = true := by rw [beq_iff_eq]; omega
        have hfy := HfY.out e0
        have HfY := Lib.hid hfy
        have Hab := Lib.hid (fun t => Hab.out t e0)
        clear e0 hfy HfN
        have g0 := cell_new wr #[.int .i64 s, .int .i64 r, .int .i64 x] 55 2
        have G0 := Lib.hid (show (wr.alloc (.cells #[.int .i64 s, .int .i64 r, .int .i64 x] 55)).cell? ⟨wr.heap.size, 2, none⟩ = some (.int .i64 x) from g0)
        clear g0
        go_upto_region 9 with fail
        generalize hob : wr.heap.size = ob at *
        clear hc1 hc2 hc3 hixk hob hsk Hb Hown
        generalize wr.alloc (.cells #[.int .i64 s, .int .i64 r, .int .i64 x] 55) = w2 at *
        go_loopw [6, 24] (fun f i wx => ∃ j : Nat, i = .int .i64 j ∧ j ≤ k ∧ Below w.heap.size w wx ∧ OwnInts w.heap.size wx u3 T ∧ wx.cell? ⟨ob, 2, none⟩ = some (.int .i64 x) ∧ f = .int .i64 (lw h k x j : Nat)) (fun _ i _ => k - (intOf i).toNat)
        case atStart => exact ⟨0, rfl, Nat.zero_le _, Hb1.out, Hown1.out, G0.out, rfl⟩
        case round =>
          clear Hb1 Hown1 G0
          obtain ⟨j, rfl, hj, hb, hown, hg, rfl⟩ := hrel
          have Hb := Lib.hid hb
          have Hown := Lib.hid hown
          have Hg := Lib.hid hg
          clear hb hown hg
          by_cases hjk : j < k
          · have hjl : j < h.length := by omega
            have hd1 := Below.keep Hb.out (Hc.out j hjl).1
            have hd2 := Below.keep Hb.out (Hc.out j hjl).2.1
            have hd3 := Below.keep Hb.out (Hc.out j hjl).2.2
            have hixk := Hixj.out k hk j
            have Hy := Lib.hid (show (tK h j = 1 ∧ tI h j = x ∧ k ≤ en h 3 h.length (tT h j)) → lw h k x (j + 1) = tT h j from fun hh => by rw [lw, if_pos hh])
            have Hn := Lib.hid (show ¬ (tK h j = 1 ∧ tI h j = x ∧ k ≤ en h 3 h.length (tT h j)) → lw h k x (j + 1) = lw h k x j from fun hh => by rw [lw, if_neg hh])
            have HE := Lib.hid (fun w' (hb' : Below w.heap.size w w') => end_any HH.out (q := 3) (by omega) (tT h j) (.slice a h.length cap) w' (Ops.keep Hv.out hb'))
            have Habj := Lib.hid (Hab.out (tT h j))
            obtain ⟨t, ht⟩ : ∃ t, t = tT h j := ⟨_, rfl⟩
            obtain ⟨q, hq⟩ : ∃ q, q = tK h j := ⟨_, rfl⟩
            obtain ⟨y, hy⟩ : ∃ y, y = tI h j := ⟨_, rfl⟩
            rw [← ht] at hd1 Hy Hn HE Habj
            rw [← hq] at hd2 Hy Hn
            rw [← hy] at hd3 Hy Hn
            obtain ⟨z, hz⟩ : ∃ z, z = endI h 3 t := ⟨_, rfl⟩
            rw [← hz] at HE Habj
            obtain ⟨c, hcu⟩ : ∃ c, c = lw h k x j := ⟨_, rfl⟩
            rw [← hcu] at Hn ⊢
            clear ht hq hy hz hcu
            have hbn := below_alloc wr (.cells #[.int .i64 t, .int .i64 q, .int .i64 y] 55)
            have e0 : (wr.alloc (.cells #[.int .i64 t, .int .i64 q, .int .i64 y] 55)).cell? ⟨wr.heap.size, 0, none⟩ = some (.int .i64 t) := cell_new wr _ _ 0
            have e1 : (wr.alloc (.cells #[.int .i64 t, .int .i64 q, .int .i64 y] 55)).cell? ⟨wr.heap.size, 1, none⟩ = some (.int .i64 q) := cell_new wr _ _ 1
            have e2 : (wr.alloc (.cells #[.int .i64 t, .int .i64 q, .int .i64 y] 55)).cell? ⟨wr.heap.size, 2, none⟩ = some (.int .i64 y) := cell_new wr _ _ 2
            have HT := Lib.hid (And.intro e0 (And.intro e1 e2))
            have Hb3 := Lib.hid (Below.tr Hb.out hbn)
            have Hown3 := Lib.hid (Hown.out.keep hbn)
            have Hg3 := Lib.hid (Below.keep hbn Hg.out)
            have HE3 := Lib.hid (HE.out _ Hb3.out)
            clear hbn Hown Hg e0 e1 e2
            go_upto_region 11 with fail
            clear hd1 hd2 hd3 hixk
            generalize hpb : wr.heap.size = pb at *
            clear hpb Hb HE
            generalize wr.alloc (.cells #[.int .i64 t, .int .i64 q, .int .i64 y] 55) = w3 at *
            have hT := HT.out.1
            have hT1 := HT.out.2.1
            have hT2 := HT.out.2.2
            have hgo := Hg3.out
            by_cases f1 : q = 1
            · have q1 : ((q : Int) == 1) = true := by rw [beq_iff_eq]; omega
              by_cases f2 : y = x
              · have q2 : ((y : Int) == (x : Int)) = true := by rw [beq_iff_eq]; omega
                have Hf := Lib.hid (And.intro f1 f2)
                clear f1 f2
                go_wp2_with fail
                refine HE3.out.mono ?_
                rintro e w4 ⟨rfl, hb4⟩
                have Hb4 := Lib.hid (Below.tr Hb3.out hb4)
                have Hown4 := Lib.hid (Hown3.out.keep hb4)
                have Hg4 := Lib.hid (Below.keep hb4 Hg3.out)
                have HT4 := Lib.hid (Below.keep hb4 hT)
                clear hb4 hT hT1 hT2 hgo HT
                have hT := HT4.out
                by_cases g1 : z < 0
                · have R := Lib.hid (Hy.out ⟨Hf.out.1, Hf.out.2, Habj.out.1 (.inl g1)⟩)
                  go_wp2_with fail
                  go_roundw
                  case rel => exact ⟨j + 1, by go_num, by omega, Hb4.out, Hown4.out, Hg4.out, by rw [R.out]⟩
                  case measure => simp [intOf]; omega
                · by_cases g2 : z > (k : Int)
                  · have R := Lib.hid (Hy.out ⟨Hf.out.1, Hf.out.2, Habj.out.1 (.inr g2)⟩)
                    go_wp2_with fail
                    go_roundw
                    case rel => exact ⟨j + 1, by go_num, by omega, Hb4.out, Hown4.out, Hg4.out, by rw [R.out]⟩
                    case measure => simp [intOf]; omega
                  · have R := Lib.hid (Hn.out fun e => (Habj.out.2 e.2.2).elim g1 g2)
                    go_wp2_with fail
                    go_roundw
                    case rel => exact ⟨j + 1, by go_num, by omega, Hb4.out, Hown4.out, Hg4.out, by rw [R.out]⟩
                    case measure => simp [intOf]; omega
              · have q2 : ((y : Int) == (x : Int)) = false := by rw [beq_eq_false_iff_ne]; omega
                have R := Lib.hid (Hn.out fun e => f2 e.2.1)
                clear f1 f2
                go_wp2_with fail
                go_roundw
                case rel => exact ⟨j + 1, by go_num, by omega, Hb3.out, Hown3.out, Hg3.out, by rw [R.out]⟩
                case measure => simp [intOf]; omega
            · have q1 : ((q : Int) == 1) = false := by rw [beq_eq_false_iff_ne]; omega
              have R := Lib.hid (Hn.out fun e => f1 e.1)
              clear f1
              go_wp2_with fail
              go_roundw
              case rel => exact ⟨j + 1, by go_num, by omega, Hb3.out, Hown3.out, Hg3.out, by rw [R.out]⟩
              case measure => simp [intOf]; omega
          · obtain rfl : j = k := by omega
            have R := Lib.hid (show frm h j = ((lw h j x j : Nat) : Int) from HfY.out)
            obtain ⟨F, hF⟩ : ∃ F, F = lw h j x j := ⟨_, rfl⟩
            rw [← hF] at R ⊢
            clear hF HfY
            go_wp2_with (at_builtin; refine append_own rfl (.tmp 52) (.tmp 54) 24 rfl elemInts rfl (World.ownsRow.alloc Hown.out _) [.int .i64 F] rfl rfl ?c1 ?c2 ?c3 ?c4 ?_)
            case c1 => intro j u hj; go_simp
            case c2 => intro u hu; simp at hu; subst hu; rfl
            case c3 => rw [Hlen.out]; omega
            case c4 => have := Hb.out.size; simp; omega
            intro v' w' h1 h2 _
            have Hb9 := Lib.hid (show Below w.heap.size w w' from (Hb.out.alloc Hb.out.size _).trans h2)
            have H1 := Lib.hid (show OwnInts w.heap.size w' v' ((froms h).take (j + 1)) from by rw [Hst.out, R.out]; exact OwnInts.snoc h1)
            clear h1 h2
            go_wp2_with fail
            go_roundw
            case rel => exact ⟨j + 1, by go_num, by omega, Hb9.out, H1.out⟩
            case measure => simp [intOf]; omega
      · have q0 : ((r : Int) == 0) = false := by rw [beq_eq_false_iff_ne]; omega
        have R := Lib.hid (HfN.out e0)
        clear e0 HfY
        go_wp2_with (at_builtin; refine append_own rfl (.tmp 52) (.tmp 54) 24 rfl elemInts rfl (World.ownsRow.alloc Hown1.out _) [.int .i64 (-1)] rfl rfl ?c1 ?c2 ?c3 ?c4 ?_)
        case c1 => intro j u hj; go_simp
        case c2 => intro u hu; simp at hu; subst hu; rfl
        case c3 => rw [Hlen.out]; omega
        case c4 => have := Hb.out.size; simp; omega
        intro v' w' h1 h2 _
        have Hb9 := Lib.hid (show Below w.heap.size w w' from (Hb1.out.alloc Hb1.out.size _).trans h2)
        have H1 := Lib.hid (show OwnInts w.heap.size w' v' ((froms h).take (k + 1)) from by rw [Hst.out, R.out]; exact OwnInts.snoc h1)
        clear h1 h2
        go_wp2_with fail
        go_roundw
        case rel => exact ⟨k + 1, by go_num, by omega, Hb9.out, H1.out⟩
        case measure => simp [intOf]; omega
    · obtain rfl : k = h.length := by omega
      have HF := Lib.hid (show OwnInts w.heap.size wr u3 (froms h) by
        have := Hown.out
        rwa [List.take_of_length_le (by rw [froms_length]; exact Nat.le_refl _)] at this)
      go_wp2_with fail
      go_ret
      exact ⟨_, rfl, HF.out, Hb.out⟩
#print axioms fromE_any
#print axioms fromR_any
end Go.Proofs.Ytpehbffkplmfjaa

/- Contract of the reference's Plain. -/
import Derived.Test.YthndplkjhbmfmaaRaw
import Derived.Test.YthndplkjhbmfmaaRcl
namespace Go.Proofs.Ythndplkjhbmfmaa
open Go.RowKit
theorem plain_of {l : List RRule} (h : PlainR l) : PlainR (ofRl l) := fun r hr b hb => by
  obtain ⟨q, hq, rfl⟩ := List.mem_map.1 hr
  obtain ⟨x, hx, rfl⟩ := List.mem_map.1 hb
  exact h q (List.mem_of_mem_take hq) x (List.mem_of_mem_take hx)
set_option maxRecDepth 100000 in
set_option maxHeartbeats 8000000 in
theorem Plain_any (l : List RRule) (v : Value) (w : World) (hv : Rules w v l) (B : Bool) (hB : B = true ↔ PlainR l) :
    Calls Try.prog 45 #[v] w fun e w' => e = .returned (.bool B) ∧ Below w.heap.size w w' := by
  obtain ⟨a, b, off, cap, rfl, hle, hia, _, hcs⟩ := Rules.get hv
  obtain ⟨n, hn⟩ : ∃ x, x = l.length := ⟨_, rfl⟩
  have Hn := Lib.hid hn
  rw [← hn] at hle hia hcs ⊢
  have Hix := Lib.hid (run_ix (P := Try.prog) (t := 22) (a := a) (len := n) (cap := cap) (b := b) (off := off) (s := 3) Try.underlying22 (by intro w; kernel_rfl) hia)
  have Hc := Lib.hid hcs
  have HT := Lib.hid (fun h : PlainR l => hB.2 h)
  have HF := Lib.hid (fun h : ¬ PlainR l => show B = false from by
    cases B
    · rfl
    · exact absurd (hB.1 rfl) h)
  clear hv hia hcs hn hB
  go_enter Try.func45, Try.ntmps45
  go_wp2_with fail
  go_loopw [9] (fun vi wr => ∃ k : Nat, vi = .int .i64 k ∧ k ≤ n ∧ Below w.heap.size w wr ∧ ∀ r, r ∈ l.take k → ∀ b, b ∈ r.2 → b.1 = false) (fun vi _ => n - (intOf vi).toNat)
  case atStart => exact ⟨0, rfl, Nat.zero_le _, Below.refl _ _, fun r hr => by rw [List.take_zero] at hr; cases hr⟩
  case round =>
    generalize wr = wx at *
    obtain ⟨k, rfl, hk, hb, hp⟩ := hrel
    have Hb := Lib.hid hb
    have HP := Lib.hid hp
    clear hb hp
    by_cases hlt : k < n
    · obtain ⟨ua, uc, va, vc, hc0, hc1, hc2, hui, hvi⟩ := Hc.out k hlt
      have hc0 := Below.keep Hb.out hc0
      have hc1 := Below.keep Hb.out hc1
      have hc2 := Below.keep Hb.out hc2
      have hixk := Hix.out k
      have hlt2 : k < l.length := by rw [← Hn.out]; exact hlt
      have HTk := Lib.hid (show l.take (k + 1) = l.take k ++ [rR l k] from by rw [List.take_succ_eq_append_getElem hlt2, rR_get hlt2])
      have HMr := Lib.hid (show rR l k ∈ l from by rw [rR_get hlt2]; exact List.getElem_mem hlt2)
      obtain ⟨⟨⟨hr, A⟩, bd⟩, hrr⟩ : ∃ x, x = rR l k := ⟨_, rfl⟩
      rw [← hrr] at hc0 hc1 hc2 hui hvi HTk HMr
      simp only at hc0 hc1 hc2 hui hvi
      obtain ⟨un, hun⟩ : ∃ x, x = A.length := ⟨_, rfl⟩
      obtain ⟨bn, hbn⟩ : ∃ x, x = bd.length := ⟨_, rfl⟩
      have Hbn := Lib.hid hbn
      rw [← hun] at hc1 hui
      rw [← hbn] at hc2 hvi
      obtain ⟨w3, hw3⟩ : ∃ x, x = wx.alloc (.cells #[.int .i64 hr, .slice ua un uc, .slice va bn vc] 86) := ⟨_, rfl⟩
      have hb3 : Below wx.heap.size wx w3 := by rw [hw3]; exact below_alloc _ _
      obtain ⟨b5, hb5⟩ : ∃ x, x = wx.heap.size := ⟨_, rfl⟩
      have HX := Lib.hid (show w3.heap[b5]? = some (.cells #[.int .i64 hr, .slice ua un uc, .slice va bn vc] 86 (0, 0)) from by rw [hw3, hb5]; exact heap_alloc_new _ _)
      have Hb3 := Lib.hid (Below.tr Hb.out hb3)
      have Hw3 := Lib.hid hw3
      have Hb5 := Lib.hid hb5
      obtain ⟨a6, b6, off6, cap6, he6, hvl, hia6, _, hcs6⟩ := Lits.get hvi
      rw [← hbn] at he6 hvl hia6 hcs6
      injection he6 with e1 e2 e3
      subst e1 e3
      have Hix6 := Lib.hid (run_ix (P := Try.prog) (t := 84) (a := va) (len := bn) (cap := vc) (b := b6) (off := off6) (s := 3) Try.underlying84 (by intro w; kernel_rfl) hia6)
      have Hc6 := Lib.hid hcs6
      clear hrr hun hbn hui hvi hw3 hb3 hb5 hlt2 hia6 hcs6 e2
      go_upto_region 4 with fail
      rw [← Hw3.out, ← Hb5.out]
      clear Hw3 hc0 hc1 hc2 hixk
      have g2 := aCell HX.out 2 rfl
      go_wp2_with fail
      clear g2
      go_loopw [16] (fun vi wr => ∃ j : Nat, vi = .int .i64 j ∧ j ≤ bn ∧ Below w.heap.size w wr ∧ ∀ b, b ∈ bd.take j → b.1 = false) (fun vi _ => bn - (intOf vi).toNat)
      case atStart => exact ⟨0, rfl, Nat.zero_le _, Hb3.out, fun b hb => by rw [List.take_zero] at hb; cases hb⟩
      case round =>
        generalize wr = wy at *
        obtain ⟨j, rfl, hj, hb, hq⟩ := hrel
        have HB := Lib.hid hb
        have HQ := Lib.hid hq
        clear hb hq
        by_cases hjl : j < bn
        · obtain ⟨xa, xc, hd0, hd1, hd2, hxi⟩ := Hc6.out j hjl
          have hd0 := Below.keep HB.out hd0
          have hd1 := Below.keep HB.out hd1
          have hd2 := Below.keep HB.out hd2
          have hixj := Hix6.out j
          have hj2 : j < bd.length := by rw [← Hbn.out]; exact hjl
          have HTj := Lib.hid (show bd.take (j + 1) = bd.take j ++ [lL bd j] from by rw [List.take_succ_eq_append_getElem hj2, lL_get hj2])
          have HMb := Lib.hid (show lL bd j ∈ bd from by rw [lL_get hj2]; exact List.getElem_mem hj2)
          obtain ⟨⟨N, s, X⟩, hx⟩ : ∃ x, x = lL bd j := ⟨_, rfl⟩
          rw [← hx] at hd0 hd1 hd2 hxi HTj HMb
          simp only at hd0 hd1 hd2 hxi
          obtain ⟨xn, hxn⟩ : ∃ x, x = X.length := ⟨_, rfl⟩
          rw [← hxn] at hd2 hxi
          obtain ⟨w7, hw7⟩ : ∃ x, x = wy.alloc (.cells #[.bool N, .int .i64 s, .slice xa xn xc] 88) := ⟨_, rfl⟩
          have hb7 : Below wy.heap.size wy w7 := by rw [hw7]; exact below_alloc _ _
          obtain ⟨b8, hb8⟩ : ∃ x, x = wy.heap.size := ⟨_, rfl⟩
          have H8 := Lib.hid (show w7.heap[b8]? = some (.cells #[.bool N, .int .i64 s, .slice xa xn xc] 88 (0, 0)) from by rw [hw7, hb8]; exact heap_alloc_new _ _)
          have HB7 := Lib.hid (Below.tr HB.out hb7)
          have Hw7 := Lib.hid hw7
          have Hb8 := Lib.hid hb8
          clear hx hxn hxi hw7 hb7 hb8 hj2
          go_upto_region 7 with fail
          rw [← Hw7.out, ← Hb8.out]
          clear Hw7 hd0 hd1 hd2 hixj
          have g0 := aCell H8.out 0 rfl
          cases N
          · have HQ7 := Lib.hid (show ∀ b, b ∈ bd.take (j + 1) → b.1 = false from fun b hb => by
              rw [HTj.out] at hb
              rcases List.mem_append.1 hb with hb | hb
              · exact HQ.out b hb
              · rw [List.mem_singleton] at hb; subst hb; rfl)
            go_wp2_with fail
            go_roundw
            case rel => exact ⟨j + 1, by go_num, by omega, HB7.out, HQ7.out⟩
            case measure => simp [intOf]; omega
          · have HE := Lib.hid (show B = false from HF.out fun h => by
              have := h _ HMr.out _ HMb.out
              cases this)
            go_wp2_with fail
            go_ret
            exact ⟨by rw [HE.out]; rfl, HB7.out⟩
        · obtain rfl : bn = j := by omega
          have HP9 := Lib.hid (show ∀ r, r ∈ l.take (k + 1) → ∀ b, b ∈ r.2 → b.1 = false from fun r hr b hb => by
            rw [HTk.out] at hr
            rcases List.mem_append.1 hr with hr | hr
            · exact HP.out r hr b hb
            · rw [List.mem_singleton] at hr
              subst hr
              exact HQ.out b (by rw [Hbn.out, List.take_length]; exact hb))
          go_wp2_with fail
          go_roundw
          case rel => exact ⟨k + 1, by go_num, by omega, HB.out, HP9.out⟩
          case measure => simp [intOf]; omega
    · obtain rfl : n = k := by omega
      have HE := Lib.hid (show B = true from HT.out fun r hr b hb => HP.out r (by rw [Hn.out, List.take_length]; exact hr) b hb)
      go_wp2_with fail
      go_ret
      exact ⟨by rw [HE.out]; rfl, Hb.out⟩
#print axioms Plain_any
end Go.Proofs.Ythndplkjhbmfmaa

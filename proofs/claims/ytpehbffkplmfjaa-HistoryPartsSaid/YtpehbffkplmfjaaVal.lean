/- Contracts of of, Valid, the reference's Valid. -/
import Derived.Test.YtpehbffkplmfjaaBlk
namespace Go.Proofs.Ytpehbffkplmfjaa
open Go.RowKit

set_option maxHeartbeats 1000000 in
theorem of_any (l : List HOp) (v : Value) (w : World) (hv : Ops w v l) :
    Calls Try.prog 18 #[v] w fun e w' => ∃ v', e = .returned v' ∧ OwnOps 58 w.heap.size w' v' (l.take 43) ∧ Below w.heap.size w w' := by
  obtain ⟨a, b, off, cap, rfl, hle, ha, hcap, hc⟩ := Ops.get hv
  have hix := run_ix (P := Try.prog) (t := 23) (a := a) (len := l.length) (cap := cap) (b := b) (off := off) (s := 3) Try.underlying23 (by intro w; kernel_rfl) ha
  have Hc := Lib.hid hc
  have Hix := Lib.hid hix
  clear ha hv hc hix hcap
  go_enter Try.func18, Try.ntmps18
  go_wp2_with fail
  go_loopw [3, 8] (fun o i wr => ∃ k : Nat, i = .int .i64 k ∧ k ≤ l.length ∧ k ≤ 43 ∧ Below w.heap.size w wr ∧ OwnOps 58 w.heap.size wr o (l.take k)) (fun _ i _ => l.length - (intOf i).toNat)
  case atStart => exact ⟨0, rfl, Nat.zero_le _, by omega, Below.refl _ _, ownOps_nil _ _ _⟩
  case round =>
    obtain ⟨k, rfl, hk, hk43, hb, hown⟩ := hrel
    have Hown := Lib.hid hown
    have Hb := Lib.hid hb
    clear hown hb
    by_cases hlt : k < l.length
    · have hc1 := Below.keep Hb.out (Hc.out k hlt).1
      have hc2 := Below.keep Hb.out (Hc.out k hlt).2.1
      have hc3 := Below.keep Hb.out (Hc.out k hlt).2.2
      have hixk := Hix.out k
      by_cases h43 : k < 43
      · have hlen : (l.take k).length = k := by simp; omega
        have Hst := Lib.hid (fun (w' : World) (v' : Value) (h : w'.ownsRow w.heap.size 58 3 v' (k + 1) (opCells (l.take k) ++ [.int .i64 (oT l k), .int .i64 (oK l k), .int .i64 (oI l k)])) => OwnOps.step (e := 58) (base := w.heap.size) (w := w') (v := v') hlt (by rw [hlen]; exact h))
        have Hlen := Lib.hid hlen
        obtain ⟨t, ht⟩ : ∃ t, t = oT l k := ⟨_, rfl⟩
        obtain ⟨q, hq⟩ : ∃ q, q = oK l k := ⟨_, rfl⟩
        obtain ⟨x, hx⟩ : ∃ x, x = oI l k := ⟨_, rfl⟩
        rw [← ht] at hc1 Hst
        rw [← hq] at hc2 Hst
        rw [← hx] at hc3 Hst
        clear ht hq hx hlen
        go_wp2_with (at_builtin; refine append_own rfl (.tmp 15) (.tmp 23) 29 rfl elemOps rfl (World.ownsRow.alloc (World.ownsRow.alloc Hown.out _) _) [.int .i64 t, .int .i64 q, .int .i64 x] rfl rfl ?c1 ?c2 ?c3 ?c4 ?_)
        case c1 => intro j u hj; go_simp
        case c2 => intro u hu; simp at hu; rcases hu with rfl | rfl | rfl <;> rfl
        case c3 => rw [Hlen.out]; omega
        case c4 => simp; have := Hb.out.size; omega
        intro v' w' h1 h2 _
        have Hb2 := Lib.hid (show Below w.heap.size w w' from ((Hb.out.alloc Hb.out.size _).alloc (by have := Hb.out.size; simp; omega) _).trans h2)
        have H1 := Lib.hid (Hst.out _ _ h1)
        clear h1 h2
        go_wp2_with fail
        go_roundw
        case rel => exact ⟨k + 1, by go_num, by omega, by omega, Hb2.out, H1.out⟩
        case measure => simp [intOf]; omega
      · have HF := Lib.hid (show OwnOps 58 w.heap.size wr u3 (l.take 43) by rw [show 43 = k by omega]; exact Hown.out)
        go_wp2_with fail
        go_ret
        exact ⟨_, rfl, HF.out.keep (below_alloc _ _), Hb.out.alloc Hb.out.size _⟩
    · obtain rfl : k = l.length := by omega
      have HF := Lib.hid (show OwnOps 58 w.heap.size wr u3 (l.take 43) by
        have := Hown.out
        rw [List.take_length] at this
        rw [List.take_of_length_le hk43]; exact this)
      go_wp2_with fail
      go_ret
      exact ⟨_, rfl, HF.out, Hb.out⟩
def endF (l : List HOp) (k : Nat) (j : Nat) : Value := .bool (decide (Ended l k (j : Int)))
set_option maxRecDepth 100000 in
set_option maxHeartbeats 4000000 in
theorem valid_any (l : List HOp) (v : Value) (w : World) (hv : Ops w v l) :
    Calls Try.prog 19 #[v] w fun e w' => e = .returned (.bool (decide (ValidH l))) ∧ Below w.heap.size w w' := by
  obtain ⟨a, b, off, cap, rfl, hle, ha, hcap, hc⟩ := Ops.get hv
  have hix := run_ix (P := Try.prog) (t := 29) (a := a) (len := l.length) (cap := cap) (b := b) (off := off) (s := 3) Try.underlying29 (by intro w; kernel_rfl) ha
  have Hc := Lib.hid hc
  have Hix := Lib.hid hix
  clear ha hv hc hix hcap
  by_cases h40 : l.length ≤ 40
  · have h40' : ¬ (l.length : Int) > 40 := by omega
    go_enter Try.func19, Try.ntmps19
    go_wp2_with fail
    have hb0 : Below w.heap.size w (w.alloc (.cells #[.bool false, .bool false, .bool false, .bool false, .bool false, .bool false, .bool false] 66)) := below_alloc _ _
    have hB0 : Blk (w.alloc (.cells #[.bool false, .bool false, .bool false, .bool false, .bool false, .bool false, .bool false] 66)) w.heap.size 66 7 (endF l 0) := by
      have := blk_new w 66 7 (endF l 0)
      rw [row_congr (g := fun _ => .bool false) (fun j _ => by unfold endF; rw [decide_eq_false (fun ⟨i, hi, _⟩ => by omega)])] at this
      exact Blk.congr (f := fun _ => .bool false) this (fun j _ => by unfold endF; rw [decide_eq_false (fun ⟨i, hi, _⟩ => by omega)])
    generalize w.alloc (.cells #[.bool false, .bool false, .bool false, .bool false, .bool false, .bool false, .bool false] 66) = w1 at *
    have Hb0 := Lib.hid hb0
    have HB0 := Lib.hid hB0
    clear hb0 hB0
    go_loopw [11] (fun i wr => ∃ k : Nat, i = .int .i64 k ∧ k ≤ l.length ∧ Below w.heap.size w wr ∧ Blk wr w.heap.size 66 7 (endF l k) ∧ ∀ i, i < k → OpRow l i) (fun i _ => l.length - (intOf i).toNat)
    case atStart => exact ⟨0, rfl, Nat.zero_le _, Hb0.out, HB0.out, fun i hi => by omega⟩
    case round =>
      clear Hb0 HB0
      obtain ⟨k, rfl, hk, hb, hB, hin⟩ := hrel
      have Hb := Lib.hid hb
      have HB := Lib.hid hB
      have Hin := Lib.hid hin
      clear hb hB hin
      by_cases hlt : k < l.length
      · have hc1 := Below.keep Hb.out (Hc.out k hlt).1
        have hc2 := Below.keep Hb.out (Hc.out k hlt).2.1
        have hc3 := Below.keep Hb.out (Hc.out k hlt).2.2
        have hixk := Hix.out k
        have Hno := Lib.hid (show ¬ OpRow l k → decide (ValidH l) = false from fun h => decide_eq_false (validH_no hlt h))
        have Hrow := Lib.hid (show OpRow l k ↔ OpOk (oT l k) (oK l k) (oI l k) ∧ ¬ Ended l k (oT l k) from opRow_ended)
        have Hst := Lib.hid (fun t => ended_step (l := l) (k := k) (t := t))
        obtain ⟨t, ht⟩ : ∃ t, t = oT l k := ⟨_, rfl⟩
        obtain ⟨q, hq⟩ : ∃ q, q = oK l k := ⟨_, rfl⟩
        obtain ⟨x, hx⟩ : ∃ x, x = oI l k := ⟨_, rfl⟩
        rw [← ht] at hc1 Hst Hrow
        rw [← hq] at hc2 Hst Hrow
        rw [← hx] at hc3 Hrow
        clear ht hq hx
        have HB1 := Lib.hid (HB.out.keep (below_alloc wr (.cells #[.int .i64 t, .int .i64 q, .int .i64 x] 58)))
        by_cases hok : OpOk t q x
        · have hV := Lib.hid (fun w => opValid_b t q x true (decide_eq_true hok) w)
          go_wp2_with fail
          refine (hV.out _).mono ?_
          rintro e w2 ⟨rfl, hb2⟩
          have HB2 := Lib.hid (HB1.out.keep hb2)
          have hd1 : w2.cell? ⟨wr.heap.size, 0, none⟩ = some (.int .i64 t) := Below.keep hb2 (cell_new _ _ _ _)
          have hd2 : w2.cell? ⟨wr.heap.size, 1, none⟩ = some (.int .i64 q) := Below.keep hb2 (cell_new _ _ _ _)
          have hd3 : w2.cell? ⟨wr.heap.size, 2, none⟩ = some (.int .i64 x) := Below.keep hb2 (cell_new _ _ _ _)
          have Hb2 := Lib.hid (Below.tr Hb.out (Below.tr (below_alloc _ _) hb2))
          obtain ⟨T, rfl⟩ : ∃ T : Nat, t = (T : Int) := ⟨t.toNat, by unfold OpOk at hok; omega⟩
          have hT1 : 1 ≤ T := by unfold OpOk at hok; omega
          have hT7 : T < 7 := by unfold OpOk at hok; omega
          have hcT := HB2.out.at hT7
          clear hb2 hc1 hc2 hc3
          unfold endF at hcT
          by_cases he : Ended l k (T : Int)
          · rw [decide_eq_true he] at hcT
            have R := Lib.hid (Hno.out fun h => (Hrow.out.1 h).2 he)
            clear hok he
            go_wp2_with fail
            go_ret
            exact ⟨by rw [R.out]; rfl, Hb2.out⟩
          · rw [decide_eq_false he] at hcT
            have R := Lib.hid (show ∀ i, i < k + 1 → OpRow l i from fun i hi => by
              by_cases e : i = k
              · subst e; exact Hrow.out.2 ⟨hok, he⟩
              · exact Hin.out i (by omega))
            have HE := Lib.hid (fun w => isEnd_b (T : Int) q x (decide (q > 1)) (decide_eq_decide.2 (by unfold OpOk at hok; omega)) w)
            have HF := Lib.hid (show ∀ j, j < 7 → (if j = T then Value.bool (decide (q > 1)) else endF l k j) = endF l (k + 1) j from fun j hj => by
              have hs := Hst.out (j : Int) he
              unfold endF
              by_cases e : j = T
              · rw [if_pos e]; congr 1
                exact decide_eq_decide.2 (by rw [hs, if_pos (by omega)])
              · rw [if_neg e]; congr 1
                exact decide_eq_decide.2 (by rw [hs, if_neg (by omega)]))
            generalize decide (q > 1) = E at *
            clear hok he
            have hTi : (T : Int) < 7 := by omega
            have hT0 : (0 : Int) ≤ (T : Int) := by omega
            go_wp2_with fail
            go_region_law (go_simp; go_at_call 50; refine (HE.out _).mono ?_; rintro e w3 ⟨rfl, hb3⟩; have hd4 : w3.cell? ⟨wr.heap.size, 0, none⟩ = some (.int .i64 (T : Int)) := Below.keep hb3 (by exact hd1); have HB3 : Blk w3 w.heap.size 66 7 (endF l k) := Blk.keep (by exact HB2.out) hb3; have hf3 := HB3.fz T; have hc3 := HB3.at hT7)
            all_goals
              have HBx := Lib.hid ((HB3.put T (.bool E)).congr HF.out)
              have Hbx := Lib.hid ((Below.tr (Hb2.out.drew) hb3).setCell (p := ⟨w.heap.size, T, none⟩) (Nat.le_refl _) (.bool E))
              generalize w3.setCell ⟨w.heap.size, T, none⟩ (.bool E) = w4 at *
              clear hd4 HB3 hf3 hc3 hb3
              go_wp2_with fail
              go_roundw
              case rel => exact ⟨k + 1, by go_num, by omega, Hbx.out, HBx.out, R.out⟩
              case measure => simp [intOf]; omega
        · have hV := Lib.hid (fun w => opValid_b t q x false (decide_eq_false hok) w)
          have R := Lib.hid (Hno.out fun h => hok (Hrow.out.1 h).1)
          clear hok
          go_wp2_with fail
          refine (hV.out _).mono ?_
          rintro e w2 ⟨rfl, hb2⟩
          have Hb2 := Lib.hid (Below.tr Hb.out (Below.tr (below_alloc _ _) hb2))
          clear hb2
          go_wp2_with fail
          go_ret
          exact ⟨by rw [R.out]; rfl, Hb2.out⟩
      · obtain rfl : k = l.length := by omega
        have R := Lib.hid (show decide (ValidH l) = true from decide_eq_true ⟨h40, Hin.out⟩)
        go_wp2_with fail
        go_ret
        exact ⟨by rw [R.out]; rfl, Hb.out⟩
  · have R := Lib.hid (show decide (ValidH l) = false from decide_eq_false fun h => h40 h.1)
    have h40' : (l.length : Int) > 40 := by omega
    clear h40
    go_enter Try.func19, Try.ntmps19
    go_wp2_with fail
    go_ret
    exact ⟨by rw [R.out]; rfl, Below.refl _ _⟩
/-- what the reference asks of an operation by itself, as it is written -/
def OpOkR (t k x : Int) : Prop := ¬ (t < 1) ∧ ¬ (t > 6) ∧ ¬ (k < 0) ∧ ¬ (k > 3) ∧ ¬ (x < 0) ∧ ¬ (x > 5) ∧ ¬ (k > 1 ∧ x ≠ 0)
theorem opOkR_iff {t k x : Int} : OpOkR t k x ↔ OpOk t k x := by unfold OpOkR OpOk; omega
theorem Ops.sub {P : Program} {t E : TypeId} {a : Option Addr} {len cap : Nat} {k : Nat} (ht : P.underlying t = some (.slice E)) (hs : ∀ w, (sizeOf E).run P w = .ok 3 w) (hc : len ≤ cap) (hk : k ≤ len) (w : World) :
    (Instr.slice t (.slice a len cap) none (some (.int .i64 k)) none).run P w = .ok (.slice a k cap) w := run_to ht hs hc k w hk
set_option maxRecDepth 100000 in
set_option maxHeartbeats 8000000 in
theorem validR_any (l : List HOp) (v : Value) (w : World) (hv : Ops w v l) :
    Calls Try.prog 20 #[v] w fun e w' => e = .returned (.bool (decide (ValidH l))) ∧ Below w.heap.size w w' := by
  obtain ⟨a, b, off, cap, rfl, hle, ha, hcap, hc⟩ := Ops.get hv
  have hix := run_ix (P := Try.prog) (t := 23) (a := a) (len := l.length) (cap := cap) (b := b) (off := off) (s := 3) Try.underlying23 (by intro w; kernel_rfl) ha
  have hsub := fun k (hk : k ≤ l.length) w => Ops.sub (P := Try.prog) (a := a) (k := k) Try.underlying23 (by intro w; kernel_rfl) hcap hk w
  have hixk := fun k (hk : k ≤ l.length) => run_ix (P := Try.prog) (t := 23) (a := a) (len := k) (cap := cap) (b := b) (off := off) (s := 3) Try.underlying23 (by intro w; kernel_rfl) (fun h => ha (by omega))
  have Hc := Lib.hid hc
  have Hix := Lib.hid hix
  have Hsub := Lib.hid hsub
  have Hixk := Lib.hid hixk
  clear ha hv hc hix hcap hsub hixk
  go_enter Try.func20, Try.ntmps20
  go_wp2_with fail
  go_loopw [9] (fun i wr => ∃ k : Nat, i = .int .i64 k ∧ k ≤ l.length ∧ Below w.heap.size w wr ∧ ∀ i, i < k → OpRow l i) (fun i _ => l.length - (intOf i).toNat)
  case atStart => exact ⟨0, rfl, Nat.zero_le _, Below.refl _ _, fun i hi => by omega⟩
  case round =>
    obtain ⟨k, rfl, hk, hb, hin⟩ := hrel
    have Hb := Lib.hid hb
    have Hin := Lib.hid hin
    clear hb hin
    by_cases hlt : k < l.length
    · have hc1 := Below.keep Hb.out (Hc.out k hlt).1
      have hc2 := Below.keep Hb.out (Hc.out k hlt).2.1
      have hc3 := Below.keep Hb.out (Hc.out k hlt).2.2
      have hixk := Hix.out k
      have Hno := Lib.hid (show ¬ OpRow l k → decide (ValidH l) = false from fun h => decide_eq_false (validH_no hlt h))
      have Hrow := Lib.hid (show OpRow l k ↔ OpOk (oT l k) (oK l k) (oI l k) ∧ ∀ j, j < k → ¬ (oT l j = oT l k ∧ oK l j > 1) from Iff.rfl)
      obtain ⟨t, ht⟩ : ∃ t, t = oT l k := ⟨_, rfl⟩
      obtain ⟨q, hq⟩ : ∃ q, q = oK l k := ⟨_, rfl⟩
      obtain ⟨x, hx⟩ : ∃ x, x = oI l k := ⟨_, rfl⟩
      rw [← ht] at hc1 Hrow
      rw [← hq] at hc2 Hrow
      rw [← hx] at hc3 Hrow
      clear ht hq hx
      have Hbad := Lib.hid (show ¬ OpOk t q x → decide (ValidH l) = false from fun h => Hno.out fun hr => h (Hrow.out.1 hr).1)
      have hB1 := Lib.hid (show Below w.heap.size w (wr.alloc (.cells #[.int .i64 t, .int .i64 q, .int .i64 x] 55)) from Hb.out.alloc Hb.out.size _)
      by_cases n1 : t < 1
      · have R := Lib.hid (Hbad.out fun h => by unfold OpOk at h; omega)
        go_wp2_with fail
        go_ret
        exact ⟨by rw [R.out]; rfl, hB1.out⟩
      · by_cases n2 : t > 6
        · have R := Lib.hid (Hbad.out fun h => by unfold OpOk at h; omega)
          go_wp2_with fail
          go_ret
          exact ⟨by rw [R.out]; rfl, hB1.out⟩
        · by_cases n3 : q < 0
          · have R := Lib.hid (Hbad.out fun h => by unfold OpOk at h; omega)
            go_wp2_with fail
            go_ret
            exact ⟨by rw [R.out]; rfl, hB1.out⟩
          · by_cases n4 : q > 3
            · have R := Lib.hid (Hbad.out fun h => by unfold OpOk at h; omega)
              go_wp2_with fail
              go_ret
              exact ⟨by rw [R.out]; rfl, hB1.out⟩
            · by_cases n5 : x < 0
              · have R := Lib.hid (Hbad.out fun h => by unfold OpOk at h; omega)
                go_wp2_with fail
                go_ret
                exact ⟨by rw [R.out]; rfl, hB1.out⟩
              · by_cases n6 : x > 5
                · have R := Lib.hid (Hbad.out fun h => by unfold OpOk at h; omega)
                  go_wp2_with fail
                  go_ret
                  exact ⟨by rw [R.out]; rfl, hB1.out⟩
                · by_cases n7 : q > 1 ∧ x ≠ 0
                  · have R := Lib.hid (Hbad.out fun h => by unfold OpOk at h; omega)
                    obtain ⟨m1, m2⟩ := n7
                    have m3 : (x != 0) = true := by rw [bne_iff_ne]; exact m2
                    clear m2
                    go_wp2_with fail
                    go_ret
                    exact ⟨by rw [R.out]; rfl, hB1.out⟩
                  · have hok : OpOk t q x := by unfold OpOk; omega
                    have Hok := Lib.hid hok
                    clear hok
                    have hsk := Hsub.out k hk
                    have hsc := Hixk.out k hk
                    have Hsc := Lib.hid hsc
                    clear hsc
                    by_cases m1 : q > 1
                    all_goals
                      first
                        | (have m3 : (x != 0) = false := by rw [bne_eq_false_iff_eq]; omega)
                        | skip
                      clear n7
                      obtain ⟨wo, rfl⟩ : ∃ wo : World, wo = wr := ⟨_, rfl⟩
                      go_wp2_with fail
                      have hd1 := cell_new wo #[.int .i64 t, .int .i64 q, .int .i64 x] 55 0
                      have Hd1 := Lib.hid (show (wo.alloc (.cells #[.int .i64 t, .int .i64 q, .int .i64 x] 55)).cell? ⟨wo.heap.size, 0, none⟩ = some (.int .i64 t) from hd1)
                      clear hd1
                      generalize wo.alloc (.cells #[.int .i64 t, .int .i64 q, .int .i64 x] 55) = w1 at *
                      have Hb1 := Lib.hid hB1
                      clear hB1 hc1 hc2 hc3
                      go_loopw [56] (fun i wx => ∃ j : Nat, i = .int .i64 j ∧ j ≤ k ∧ Below w1.heap.size w1 wx ∧ ∀ i, i < j → ¬ (oT l i = t ∧ oK l i > 1)) (fun i _ => k - (intOf i).toNat)
                      case atStart => exact ⟨0, rfl, Nat.zero_le _, Below.refl _ _, fun i hi => by omega⟩
                      case round =>
                        obtain ⟨j, rfl, hj, hb2, hin2⟩ := hrel
                        have Hb2 := Lib.hid hb2
                        have Hin2 := Lib.hid hin2
                        clear hb2 hin2
                        by_cases hltj : j < k
                        · have Hbb := Lib.hid (Below.tr Hb1.out Hb2.out)
                          have hj1 := Below.keep Hbb.out (Hc.out j (by omega)).1
                          have hj2 := Below.keep Hbb.out (Hc.out j (by omega)).2.1
                          have hj3 := Below.keep Hbb.out (Hc.out j (by omega)).2.2
                          have hixj := Hsc.out j
                          have Hgo := Lib.hid (show ¬ (oT l j = t ∧ oK l j > 1) → ∀ i, i < j + 1 → ¬ (oT l i = t ∧ oK l i > 1) from fun h i hi => by
                            by_cases e : i = j
                            · subst e; exact h
                            · exact Hin2.out i (by omega))
                          have Hst := Lib.hid (show (oT l j = t ∧ oK l j > 1) → decide (ValidH l) = false from fun h => Hno.out fun hr => (Hrow.out.1 hr).2 j hltj h)
                          obtain ⟨t2, ht2⟩ : ∃ t, t = oT l j := ⟨_, rfl⟩
                          obtain ⟨q2, hq2⟩ : ∃ q, q = oK l j := ⟨_, rfl⟩
                          obtain ⟨x2, hx2⟩ : ∃ x, x = oI l j := ⟨_, rfl⟩
                          rw [← ht2] at hj1 Hgo Hst
                          rw [← hq2] at hj2 Hgo Hst
                          rw [← hx2] at hj3
                          clear ht2 hq2 hx2
                          have ht1 := Below.keep (below_alloc wr (.cells #[.int .i64 t2, .int .i64 q2, .int .i64 x2] 55)) (Below.keep Hb2.out Hd1.out)
                          have Hb3 := Lib.hid (Below.tr Hb2.out (below_alloc wr (.cells #[.int .i64 t2, .int .i64 q2, .int .i64 x2] 55)))
                          by_cases e1 : t2 = t
                          · have qe : (t2 == t) = true := by rw [beq_iff_eq]; exact e1
                            by_cases e2 : q2 > 1
                            · have R := Lib.hid (Hst.out ⟨e1, e2⟩)
                              clear e1
                              go_wp2_with fail
                              go_ret
                              exact ⟨by rw [R.out]; rfl, Below.tr Hb1.out Hb3.out⟩
                            · have R := Lib.hid (Hgo.out fun h => e2 h.2)
                              clear e1
                              go_wp2_with fail
                              go_roundw
                              case rel => exact ⟨j + 1, by go_num, by omega, Hb3.out, R.out⟩
                              case measure => simp [intOf]; omega
                          · have R := Lib.hid (Hgo.out fun h => e1 h.1)
                            have qe : (t2 == t) = false := by rw [beq_eq_false_iff_ne]; exact e1
                            clear e1
                            go_wp2_with fail
                            go_roundw
                            case rel => exact ⟨j + 1, by go_num, by omega, Hb3.out, R.out⟩
                            case measure => simp [intOf]; omega
                        · obtain rfl : j = k := by omega
                          have R := Lib.hid (show ∀ i, i < j + 1 → OpRow l i from fun i hi => by
                            by_cases e : i = j
                            · subst e; exact Hrow.out.2 ⟨Hok.out, Hin2.out⟩
                            · exact Hin.out i (by omega))
                          have Hbb := Lib.hid (Below.tr Hb1.out Hb2.out)
                          go_wp2_with fail
                          go_roundw
                          case rel => exact ⟨j + 1, by go_num, by omega, Hbb.out, R.out⟩
                          case measure => simp [intOf]; omega
    · obtain rfl : k = l.length := by omega
      have R := Lib.hid (show decide (ValidH l) = decide ((l.length : Int) ≤ 40) from decide_eq_decide.2 ⟨fun h => by have := h.1; omega, fun h => ⟨by omega, Hin.out⟩⟩)
      go_wp2_with fail
      go_ret
      exact ⟨by rw [R.out]; rfl, Hb.out⟩
end Go.Proofs.Ytpehbffkplmfjaa

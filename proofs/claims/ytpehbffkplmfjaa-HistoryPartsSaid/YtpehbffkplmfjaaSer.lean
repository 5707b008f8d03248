/- Contract of the reference's serial: the operations, transaction by transaction. -/
import Derived.Test.YtpehbffkplmfjaaPrt
namespace Go.Proofs.Ytpehbffkplmfjaa
open Go.RowKit
/-- the operations of transaction t among the first k -/
def serT (h : List NOp) (t k : Nat) : List NOp := (h.take k).filter fun d => decide (d.1 = t)
/-- .. transaction by transaction -/
def serN (h : List NOp) (p : List Nat) : List NOp := p.flatMap fun t => serT h t h.length
theorem serT_step {h : List NOp} {t k : Nat} (hk : k < h.length) : serT h t (k + 1) = if tT h k = t then serT h t k ++ [(tT h k, tK h k, tI h k)] else serT h t k := by
  unfold serT
  rw [List.take_succ_eq_append_getElem hk, List.filter_append, nop_get hk]
  by_cases e : tT h k = t
  · rw [if_pos e]; simp [e]
  · rw [if_neg e]; simp [e]
theorem serT_le (h : List NOp) (t k : Nat) : (serT h t k).length ≤ h.length := by
  have h1 := List.length_filter_le (fun d : NOp => decide (d.1 = t)) (h.take k)
  have h2 : (h.take k).length ≤ h.length := List.length_take_le' _ _
  unfold serT
  omega
theorem serN_le (h : List NOp) : ∀ p : List Nat, (serN h p).length ≤ p.length * h.length
  | [] => by simp [serN]
  | t :: p => by
    have h1 := serN_le h p
    have h2 := serT_le h t h.length
    show (serT h t h.length ++ serN h p).length ≤ (p.length + 1) * h.length
    rw [List.length_append, Nat.succ_mul]; omega
theorem serN_step (h : List NOp) {p : List Nat} {j : Nat} (hj : j < p.length) : serN h (p.take (j + 1)) = serN h (p.take j) ++ serT h (p.getD j 0) h.length := by
  unfold serN
  rw [List.take_succ_eq_append_getElem hj, List.flatMap_append, List.getD_eq_getElem?_getD, List.getElem?_eq_getElem hj]
  simp
theorem castO_append (a b : List NOp) : castO (a ++ b) = castO a ++ castO b := by simp [castO]
set_option maxRecDepth 100000 in
set_option maxHeartbeats 4000000 in
theorem serial_any {h : List NOp} (hh : VH h) (v : Value) (w : World) (hv : Ops w v (castO h)) {p : List Nat} (hp : p.length ≤ 7) (u : Value) (hu : Ints w u (castN p)) :
    Calls Try.prog 98 #[v, u] w fun e w' => ∃ v', e = .returned v' ∧ OwnOps 55 w.heap.size w' v' (castO (serN h p)) ∧ Below w.heap.size w w' := by
  obtain ⟨a, b, off, cap, rfl, hle, ha, hcap, hc⟩ := Ops.nat hv
  have hix := run_ix (P := Try.prog) (t := 23) (a := a) (len := h.length) (cap := cap) (b := b) (off := off) (s := 3) Try.underlying23 (by intro w; kernel_rfl) ha
  obtain ⟨a2, b2, off2, cap2, rfl, hle2, ha2, hc2⟩ := IntsN.get hu
  have hix2 := run_ix (P := Try.prog) (t := 24) (a := a2) (len := p.length) (cap := cap2) (b := b2) (off := off2) (s := 1) Try.underlying24 (by intro w; kernel_rfl) ha2
  simp only [Nat.mul_one] at hix2
  have h40 := hh.le
  have Hc := Lib.hid hc
  have Hix := Lib.hid hix
  have Hc2 := Lib.hid hc2
  have Hix2 := Lib.hid hix2
  have Hs := Lib.hid (fun (t k : Nat) (hk : k < h.length) => serT_step (t := t) hk)
  have Hsl := Lib.hid (fun (t k : Nat) => serT_le h t k)
  have Hn := Lib.hid (fun (j : Nat) (hj : j < p.length) => serN_step h hj)
  have Hnl := Lib.hid (fun (j : Nat) (hj : j ≤ p.length) => show (serN h (p.take j)).length ≤ 280 from by
    have h1 := serN_le h (p.take j)
    have h2 : (p.take j).length ≤ 7 := by rw [List.length_take]; omega
    have h3 : (p.take j).length * h.length ≤ 7 * 40 := Nat.mul_le_mul h2 h40
    omega)
  have Hfin := Lib.hid (show serN h (p.take p.length) = serN h p from by rw [List.take_length])
  have H0 := Lib.hid (show ∀ t, serT h t 0 = [] from fun t => by simp [serT])
  clear ha hv hc hix hcap hh hle ha2 hc2 hix2 hu
  go_enter Try.func98, Try.ntmps98
  go_wp2_with fail
  go_loopw [5, 12] (fun o vj wr => ∃ j : Nat, vj = .int .i64 j ∧ j ≤ p.length ∧ Below w.heap.size w wr ∧ OwnOps 55 w.heap.size wr o (castO (serN h (p.take j)))) (fun _ vj _ => p.length - (intOf vj).toNat)
  case atStart => exact ⟨0, rfl, Nat.zero_le _, Below.refl _ _, ownOps_nil _ _ _⟩
  case round =>
    obtain ⟨j, rfl, hj, hb, hown⟩ := hrel
    have Hbj := Lib.hid hb
    have Hownj := Lib.hid hown
    clear hb hown
    by_cases hjl : j < p.length
    · have hcj := Below.keep Hbj.out (Hc2.out j hjl)
      have hixj := Hix2.out j
      have HNj := Lib.hid (Hn.out j hjl)
      have HLj := Lib.hid (Hnl.out j hj)
      obtain ⟨t, ht⟩ : ∃ t, t = p.getD j 0 := ⟨_, rfl⟩
      rw [← ht] at hcj HNj
      obtain ⟨S, hS⟩ : ∃ S, S = serN h (p.take j) := ⟨_, rfl⟩
      rw [← hS] at HNj HLj Hownj
      clear ht hS
      go_wp2_with fail
      obtain ⟨wo, hwo⟩ : ∃ wo : World, wo = wr := ⟨_, rfl⟩
      clear hwo
      go_loopw [5, 18] (fun o vk wr => ∃ k : Nat, vk = .int .i64 k ∧ k ≤ h.length ∧ Below w.heap.size w wr ∧ OwnOps 55 w.heap.size wr o (castO (S ++ serT h t k))) (fun _ vk _ => h.length - (intOf vk).toNat)
      case atStart => exact ⟨0, rfl, Nat.zero_le _, Hbj.out, by rw [H0.out, List.append_nil]; exact Hownj.out⟩
      case round =>
        clear Hownj
        obtain ⟨k, rfl, hk, hb, hown⟩ := hrel
        obtain ⟨wA, hwA⟩ : ∃ wA : World, wA = wr := ⟨_, rfl⟩
        subst hwA
        have Hb := Lib.hid hb
        have Hown := Lib.hid hown
        clear hb hown
        by_cases hlt : k < h.length
        · have hc1 := Below.keep Hb.out (Hc.out k hlt).1
          have hc2 := Below.keep Hb.out (Hc.out k hlt).2.1
          have hc3 := Below.keep Hb.out (Hc.out k hlt).2.2
          have hixk := Hix.out k
          have HS1 := Lib.hid (Hs.out t k hlt)
          have HL1 := Lib.hid (Hsl.out t k)
          obtain ⟨s, hs⟩ : ∃ s, s = tT h k := ⟨_, rfl⟩
          obtain ⟨q, hq⟩ : ∃ r, r = tK h k := ⟨_, rfl⟩
          obtain ⟨x, hx⟩ : ∃ x, x = tI h k := ⟨_, rfl⟩
          rw [← hs] at hc1 HS1
          rw [← hq] at hc2 HS1
          rw [← hx] at hc3 HS1
          clear hs hq hx
          have hbn := below_alloc wA (.cells #[.int .i64 s, .int .i64 q, .int .i64 x] 55)
          have Hb1 := Lib.hid (Below.tr Hb.out hbn)
          have Hown1 := Lib.hid (Hown.out.keep hbn)
          have g0 : (wA.alloc (.cells #[.int .i64 s, .int .i64 q, .int .i64 x] 55)).cell? ⟨wA.heap.size, 0, none⟩ = some (.int .i64 s) := cell_new wA _ _ 0
          have g1 : (wA.alloc (.cells #[.int .i64 s, .int .i64 q, .int .i64 x] 55)).cell? ⟨wA.heap.size, 1, none⟩ = some (.int .i64 q) := cell_new wA _ _ 1
          have g2 : (wA.alloc (.cells #[.int .i64 s, .int .i64 q, .int .i64 x] 55)).cell? ⟨wA.heap.size, 2, none⟩ = some (.int .i64 x) := cell_new wA _ _ 2
          clear hbn
          by_cases e : s = t
          · subst e
            have R := Lib.hid (HS1.out.trans (if_pos rfl))
            go_wp2_with (at_builtin; refine append_own rfl (.tmp 26) (.tmp 28) 23 rfl elemOpsR rfl (World.ownsRow.alloc Hown1.out _) [.int .i64 s, .int .i64 q, .int .i64 x] rfl rfl ?c1 ?c2 ?c3 ?c4 ?_)
            case c2 => exact ⟨rfl, rfl, rfl⟩
            case c3 => have := HL1.out; have := HLj.out; rw [castO_length, List.length_append]; omega
            case c4 => have := Hb1.out.size; simp at this; simp; omega
            intro v2 w2 r1 r2 _
            have HO := Lib.hid (show OwnOps 55 w.heap.size w2 v2 (castO (S ++ serT h s (k + 1))) from by
              rw [R.out, ← List.append_assoc, castO_snoc]
              exact OwnOps.snoc r1)
            have HB := Lib.hid (show Below w.heap.size w w2 from (Below.tr Hb1.out (below_alloc _ _)).trans r2)
            clear r1 r2
            go_wp2_with fail
            go_roundw
            case rel => exact ⟨k + 1, by go_num, by omega, HB.out, HO.out⟩
            case measure => simp [intOf]; omega
          · have R := Lib.hid (HS1.out.trans (if_neg e))
            have q1 : ((s : Int) == (t : Int)) = false := by rw [beq_eq_false_iff_ne]; omega
            clear e
            go_wp2_with fail
            go_roundw
            case rel => exact ⟨k + 1, by go_num, by omega, Hb1.out, by rw [R.out]; exact Hown1.out⟩
            case measure => simp [intOf]; omega
        · obtain rfl : k = h.length := by omega
          have HO := Lib.hid (show OwnOps 55 w.heap.size wA u5 (castO (serN h (p.take (j + 1)))) from by rw [HNj.out]; exact Hown.out)
          go_wp2_with fail
          go_roundw
          case rel => exact ⟨j + 1, by go_num, by omega, Hb.out, HO.out⟩
          case measure => simp [intOf]; omega
    · obtain rfl : j = p.length := by omega
      go_wp2_with fail
      go_ret
      exact ⟨_, rfl, by rw [← Hfin.out]; exact Hownj.out, Hbj.out⟩
#print axioms serial_any
end Go.Proofs.Ytpehbffkplmfjaa

/- Contract of ownSteps. -/
import Derived.Test.YtnidalbfmicoiaaWalkSb
namespace Go.Proofs.Ytnidalbfmicoiaa
open Go.RowKit

set_option maxRecDepth 100000 in
theorem ownSteps_any (l : List Stp) (hl : l.length ≤ 1000) (v : Value) (w : World) (hv : Steps w v l) :
    Calls Try.prog 36 #[v] w fun e w' => ∃ v', e = .returned v' ∧ Steps w' v' l ∧ Below w.heap.size w w' := by
  obtain ⟨a, b, off, cap, rfl, hle, ha, -, hc⟩ := Steps.get hv
  have hix := run_ix (P := Try.prog) (t := 46) (a := a) (len := l.length) (cap := cap) (b := b) (off := off) (s := 5) Try.underlying46 (by intro w; kernel_rfl) ha
  have Hc := Lib.hid hc
  clear ha hv hc
  go_enter Try.func36, Try.ntmps36
  go_wp2
  go_loopw [3, 8] (fun o i wr => ∃ k : Nat, i = .int .i64 k ∧ k ≤ l.length ∧ Below w.heap.size w wr ∧ wr.ownsRow w.heap.size 107 5 o k (stepCells (l.take k))) (fun _ i _ => l.length - (intOf i).toNat)
  case atStart => exact ⟨0, rfl, Nat.zero_le _, Below.refl _ _, World.ownsRow_nil _ _ _ _⟩
  case round =>
    obtain ⟨k, rfl, hk, hb, hown⟩ := hrel
    have Hown := Lib.hid hown
    clear hown
    by_cases hlt : k < l.length
    · obtain ⟨hc1, hc2, hc3, hc4, hc5⟩ := Hc.out k hlt
      have hc1 := Below.keep hb hc1
      have hc2 := Below.keep hb hc2
      have hc3 := Below.keep hb hc3
      have hc4 := Below.keep hb hc4
      have hc5 := Below.keep hb hc5
      have Hk := Lib.hid (stepCells_step l k hlt)
      generalize l[k] = s at *
      obtain ⟨r, i, j, f, t⟩ := s
      simp only at hc1 hc2 hc3 hc4 hc5
      go_wp2_with (at_builtin; refine append_own rfl (.tmp 12) (.tmp 27) 50 rfl elem50 rfl ((Hown.out.alloc _).alloc _) [.int .i64 r, .int .i64 i, .int .i64 j, .int .i64 f, .int .i64 t] rfl rfl (by intro q u hq; go_simp) (by intro u hu; simp at hu; rcases hu with rfl | rfl | rfl | rfl | rfl <;> rfl) (by omega) (by have := hb.size; simp; omega) ?_)
      intro v' w' h1 h2 _
      have hb2 : Below w.heap.size w w' := ((hb.alloc hb.size _).alloc (by have := hb.size; simp; omega) _).trans h2
      have H1 := Lib.hid (show w'.ownsRow w.heap.size 107 5 v' (k + 1) (stepCells (l.take (k + 1))) by rw [Hk.out]; exact h1)
      clear h1 h2
      go_wp2
      go_roundw
      case rel => exact ⟨k + 1, by go_num, by omega, hb2, H1.out⟩
      case measure => simp [intOf]; omega
    · obtain rfl : k = l.length := by omega
      have H := owns_rd Hown.out
      have HF : Steps wr u3 l := by unfold Steps; simpa using H
      have HF := Lib.hid HF
      clear H
      go_wp2
      go_ret
      exact ⟨_, rfl, HF.out, hb⟩
end Go.Proofs.Ytnidalbfmicoiaa

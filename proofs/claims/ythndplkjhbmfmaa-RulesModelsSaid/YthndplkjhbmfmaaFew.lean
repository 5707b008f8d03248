/- Contract of few of layer 2's laws. -/
import Derived.Test.YthndplkjhbmfmaaOwn
import Derived.WalkSpells
namespace Go.Proofs.Ythndplkjhbmfmaa
open Go.RowKit
theorem fewQ_any (l : List Int) (v : Value) (w : World) (hv : Ints w v l) :
    Calls Try.prog 76 #[v] w fun e w' => ∃ v', e = .returned v' ∧ OwnInts w.heap.size w' v' (l.take 9) ∧ Below w.heap.size w w' := by
  obtain ⟨a, c, rfl⟩ := ints_slice hv
  have hle := (Rd.cap hv).1
  have hm : l.length ≤ maxLen := hv.2.1
  unfold maxLen at hm
  have hsl := run_to (P := Try.prog) (t := 23) (a := a) (len := l.length) (cap := c) (s := 1) Try.underlying23 (by intro w; kernel_rfl) hle
  have Hv := Lib.hid hv
  clear hv
  rcases Nat.lt_or_ge 9 l.length with h | h
  · have hsl9 : ∀ w, (Instr.slice 23 (.slice a l.length c) none (some (.int .i64 9)) none).run Try.prog w = .ok (.slice a 9 c) w := fun w => hsl 9 w (by omega)
    have H := Lib.hid (Hv.out.to 9 (by omega))
    have Hl := Lib.hid (show (l.take 9).length ≤ 1000000 by simp; omega)
    clear hsl
    go_enter Try.func76, Try.ntmps76
    go_wp2_with fail
    refine (cloneI_any _ _ _ Hl.out H.out).mono ?_
    rintro e w1 ⟨v1, rfl, ho, hb⟩
    obtain ⟨x, y, z, rfl⟩ := own_slice ho
    have Ho := Lib.hid ho
    clear ho
    go_wp2_with fail
    go_ret
    exact ⟨_, rfl, Ho.out, hb⟩
  · have hsl9 : ∀ w, (Instr.slice 23 (.slice a l.length c) none (some (.int .i64 l.length)) none).run Try.prog w = .ok (.slice a l.length c) w := fun w => hsl l.length w (Nat.le_refl _)
    have e : l.take 9 = l := List.take_of_length_le h
    have E := Lib.hid e
    have Hl := Lib.hid (show l.length ≤ 1000000 by omega)
    clear hsl e
    go_enter Try.func76, Try.ntmps76
    go_wp2_with fail
    refine (cloneI_any _ _ _ Hl.out Hv.out).mono ?_
    rintro e w1 ⟨v1, rfl, ho, hb⟩
    obtain ⟨x, y, z, rfl⟩ := own_slice ho
    have Ho := Lib.hid ho
    clear ho
    go_wp2_with fail
    go_ret
    exact ⟨_, rfl, by rw [E.out]; exact Ho.out, hb⟩
#print axioms fewQ_any
end Go.Proofs.Ythndplkjhbmfmaa

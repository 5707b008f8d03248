/- Contract of committed. -/
import Derived.Test.YtpehbffkplmfjaaOwn
namespace Go.Proofs.Ytpehbffkplmfjaa
open Go.RowKit

def castN (l : List Nat) : List Int := l.map fun n : Nat => (n : Int)
theorem castN_append (a b : List Nat) : castN (a ++ b) = castN a ++ castN b := by simp [castN]
theorem castN_length (l : List Nat) : (castN l).length = l.length := by simp [castN]
/-- the committed ones below n -/
def comN (h : List NOp) (n : Nat) : List Nat := (List.range n).filter fun t => decide (lv h h.length (7 + t) ≠ 40)
theorem comN_le (h : List NOp) (n : Nat) : (comN h n).length ≤ n := by have := List.length_filter_le (fun t => decide (lv h h.length (7 + t) ≠ 40)) (List.range n); simp only [List.length_range] at this; exact this
theorem comN_step (h : List NOp) (n : Nat) : comN h (n + 1) = if lv h h.length (7 + n) ≠ 40 then comN h n ++ [n] else comN h n := by
  unfold comN
  rw [List.range_succ, List.filter_append]
  by_cases e : lv h h.length (7 + n) ≠ 40
  · rw [if_pos e]; simp [e]
  · rw [if_neg e]; simp [e]
set_option maxRecDepth 100000 in
set_option maxHeartbeats 8000000 in
theorem committed_any (h : List NOp) (w : World) :
    Calls Try.prog 55 #[.agg (livA h)] w fun e w' => ∃ v', e = .returned v' ∧ OwnInts w.heap.size w' v' (castN (comN h 7)) ∧ Below w.heap.size w w' := by
  have HB := Lib.hid (blk_new w 70 21 (lvF h h.length))
  have hla : livA h = row 21 (lvF h h.length) := rfl
  rw [hla]
  clear hla
  generalize hL : row 21 (lvF h h.length) = L at *
  clear hL
  have Hs := Lib.hid (comN_step h)
  have Hl := Lib.hid (comN_le h)
  obtain ⟨F, hF⟩ : ∃ F : Nat → Nat, F = fun n => lv h h.length (7 + n) := ⟨_, rfl⟩
  have hF' : ∀ n, lv h h.length (7 + n) = F n := fun n => by rw [hF]
  simp only [hF'] at Hs
  have c0 := HB.out.at (show 7 < 21 by omega)
  have c1 := HB.out.at (show 8 < 21 by omega)
  have c2 := HB.out.at (show 9 < 21 by omega)
  have c3 := HB.out.at (show 10 < 21 by omega)
  have c4 := HB.out.at (show 11 < 21 by omega)
  have c5 := HB.out.at (show 12 < 21 by omega)
  have c6 := HB.out.at (show 13 < 21 by omega)
  unfold lvF at c0 c1 c2 c3 c4 c5 c6
  rw [show (7 : Nat) = 7 + 0 from rfl, hF'] at c0
  rw [show (8 : Nat) = 7 + 1 from rfl, hF'] at c1
  rw [show (9 : Nat) = 7 + 2 from rfl, hF'] at c2
  rw [show (10 : Nat) = 7 + 3 from rfl, hF'] at c3
  rw [show (11 : Nat) = 7 + 4 from rfl, hF'] at c4
  rw [show (12 : Nat) = 7 + 5 from rfl, hF'] at c5
  rw [show (13 : Nat) = 7 + 6 from rfl, hF'] at c6
  simp only [Nat.reduceAdd] at c0 c1 c2 c3 c4 c5 c6
  clear HB hF hF'
  have Hb0 := Lib.hid (below_alloc w (.cells L 70))
  go_enter Try.func55, Try.ntmps55
  go_wp2_with fail
  generalize w.alloc (.cells L 70) = w1 at *
  clear c0 c1 c2 c3 c4 c5 c6
  go_loopw [3, 8] (fun o i wr => ∃ k : Nat, i = .int .i64 k ∧ k ≤ 7 ∧ Below w.heap.size w wr ∧ OwnInts w.heap.size wr o (castN (comN h k))) (fun _ i _ => 7 - (intOf i).toNat)
  case atStart => exact ⟨0, rfl, Nat.zero_le _, Hb0.out, ownInts_nil _ _⟩
  case round =>
    clear Hb0
    obtain ⟨k, rfl, hk, hb, hown⟩ := hrel
    have Hown := Lib.hid hown
    have Hb := Lib.hid hb
    clear hown hb
    by_cases hlt : k < 7
    · have hki : (k : Int) < 7 := by omega
      have hk0 : (0 : Int) ≤ (k : Int) := by omega
      have hidx : ∀ w' : World, (Instr.index 68 (.agg #[.int .i64 (F 0 : Nat), .int .i64 (F 1 : Nat), .int .i64 (F 2 : Nat), .int .i64 (F 3 : Nat), .int .i64 (F 4 : Nat), .int .i64 (F 5 : Nat), .int .i64 (F 6 : Nat)]) (.int .i64 k)).run Try.prog w' = .ok (.int .i64 (F k : Nat)) w' := by
        intro w'
        obtain rfl | rfl | rfl | rfl | rfl | rfl | rfl : k = 0 ∨ k = 1 ∨ k = 2 ∨ k = 3 ∨ k = 4 ∨ k = 5 ∨ k = 6 := by omega
        all_goals kernel_rfl
      by_cases h4 : F k = 40
      · have q : ((F k : Int) != 40) = false := by rw [bne_eq_false_iff_eq]; omega
        have R := Lib.hid (show comN h (k + 1) = comN h k by rw [Hs.out, if_neg (by omega)])
        clear h4
        go_wp2_with fail
        go_roundw
        case rel => exact ⟨k + 1, by go_num, by omega, Hb.out, by rw [R.out]; exact Hown.out⟩
        case measure => simp [intOf]; omega
      · have q : ((F k : Int) != 40) = true := by rw [bne_iff_ne]; omega
        have R := Lib.hid (show castN (comN h (k + 1)) = castN (comN h k) ++ [(k : Int)] by rw [Hs.out, if_pos h4, castN_append]; rfl)
        clear h4
        go_wp2_with (at_builtin; refine append_own rfl (.tmp 14) (.tmp 16) 24 rfl elemInts rfl (World.ownsRow.alloc Hown.out _) [.int .i64 k] rfl rfl ?c1 ?c2 ?c3 ?c4 ?_)
        case c1 => intro j u hj; go_simp
        case c2 => intro u hu; simp at hu; subst hu; rfl
        case c3 => have := Hl.out k; rw [castN_length]; omega
        case c4 => have := Hb.out.size; simp; omega
        intro v' w' h1 h2 _
        have Hb2 := Lib.hid (show Below w.heap.size w w' from (Hb.out.alloc Hb.out.size _).trans h2)
        have H1 := Lib.hid (show OwnInts w.heap.size w' v' (castN (comN h (k + 1))) from by rw [R.out]; exact OwnInts.snoc h1)
        clear h1 h2
        go_wp2_with fail
        go_roundw
        case rel => exact ⟨k + 1, by go_num, by omega, Hb2.out, H1.out⟩
        case measure => simp [intOf]; omega
    · obtain rfl : k = 7 := by omega
      go_wp2_with fail
      go_ret
      exact ⟨_, rfl, Hown.out, Hb.out⟩
#print axioms committed_any
end Go.Proofs.Ytpehbffkplmfjaa

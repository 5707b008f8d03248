/- The sort of bytes: Less, the insertion sort, the reversal. -/
import Derived.Test.YtbnlkmblkokooaaBrw
import Derived.WalkKit
import Derived.BigGuard
import Derived.BigCall
import Derived.CellFam
import Derived.Deep.Draws
import Derived.Deep.QuietTactic
import Derived.BigQuiet
namespace Go.Proofs.Ytbnlkmblkokooaa
open Go.RowKit

theorem isNaN_b (x : Int) (w : World) : Calls Try.prog 123 #[.int .u8 x] w fun e w' => e = .returned (.bool false) ∧ w' = w := by
  go_enter Try.func123, Try.ntmps123
  go_wp2
  go_ret
  exact ⟨by simp, rfl⟩
abbrev ltI : Int → Int → Bool := Go.Sort.ltInt
theorem less_b (x y : Int) (w : World) : Calls Try.prog 96 #[.int .u8 x, .int .u8 y] w fun e w' => e = .returned (.bool (ltI x y)) ∧ w' = w := by
  go_enter Try.func96, Try.ntmps96
  go_wp2_with (go_at_call 123; refine (isNaN_b _ _).mono ?_; rintro e w' ⟨rfl, rfl⟩)
  go_ret
  exact ⟨rfl, rfl⟩
open Go.Sort (PermIn SortedIn swp Ins SWO)
theorem swoI : SWO ltI := Go.Sort.swo_ltInt
theorem perm_swp {d dk : Array Int} {a b i j : Nat} (h : PermIn a b d dk) (h1 : a ≤ i) (h2 : i < b) (h3 : a ≤ j) (h4 : j < b) (hb : b ≤ d.size) : PermIn a b d (swp dk i j) :=
  Go.Sort.permIn_trans _ _ _ _ _ h (Go.Sort.swp_permIn dk a b i j h1 h2 h3 h4 (by rw [h.1]; exact hb))
theorem ins_start {a i : Nat} {d : Array Int} (h : SortedIn ltI a i d) : Ins ltI a i i d := ⟨fun p q hp hpq hq hpj hqj => h p q hp hpq (by omega), fun q h1 h2 => by omega⟩
/-- a sort's post: the row's part permuted, and what Q says of it -/
def SPost (w : World) (blk off a b : Nat) (d : Array Int) (v : Value) (Q : Array Int → Prop) (e : Ending) (w' : World) : Prop :=
  e = .returned v ∧ ∃ d', Rw w blk off d' w' ∧ PermIn a b d d' ∧ Q d'
set_option maxHeartbeats 2000000 in
set_option maxRecDepth 100000 in
theorem insertion_b (blk off cap a b : Nat) (d : Array Int) (w : World) (hR : RowAt w blk off d) (hab : a ≤ b) (hb : b ≤ d.size) :
    Calls Try.prog 90 #[.slice (some ⟨blk, off, none⟩) d.size cap, .int .i64 a, .int .i64 b] w (SPost w blk off a b d (.tuple #[]) (SortedIn ltI a b)) := by
  obtain ⟨N, hN⟩ : ∃ N, N = d.size := ⟨_, rfl⟩
  have HR := Lib.hid hR
  have HN := Lib.hid hN
  have hN1 : N < 1000000 := by rw [hN]; exact hR.2.2
  rw [← hN] at hb
  rw [← hN]
  clear hR hN
  go_enter Try.func90, Try.ntmps90
  go_wp2
  go_loopw [6] (fun vi wr => ∃ (i : Nat) (dk : Array Int), vi = .int .i64 i ∧ a < i ∧ i ≤ b + 1 ∧ Rw w blk off dk wr ∧ PermIn a b d dk ∧ (i ≤ b ∨ b = a) ∧ SortedIn ltI a i dk) (fun vi _ => b + 1 - (intOf vi).toNat)
  case atStart => exact ⟨a + 1, d, by go_num, by omega, by omega, Rw.start HR.out, Go.Sort.permIn_refl _ _ _, by omega, fun i j h1 h2 h3 => by omega⟩
  case round =>
    obtain ⟨i, dk, rfl, hai, hib, hrw, hp, hib2, hso⟩ := hrel
    have HW := Lib.hid hrw
    have HP := Lib.hid hp
    have HS := Lib.hid hso
    clear hrw hp hso
    by_cases hlt : i < b
    · go_wp2_with fail
      go_loopw [7] (fun vj wr2 => ∃ (j : Nat) (dj : Array Int), vj = .int .i64 j ∧ a ≤ j ∧ j ≤ i ∧ Rw w blk off dj wr2 ∧ PermIn a b d dj ∧ Ins ltI a j i dj) (fun vj _ => (intOf vj).toNat)
      case atStart => exact ⟨i, dk, rfl, by omega, Nat.le_refl _, HW.out, HP.out, ins_start HS.out⟩
      case round =>
        obtain ⟨j, dj, rfl, haj, hji, hrw, hp, hins⟩ := hrel
        obtain ⟨G, hG⟩ : ∃ G : Nat → Int, ∀ t, G t = dj[t]! := ⟨fun t => dj[t]!, fun _ => rfl⟩
        have hsz : dj.size = N := by rw [hp.1, HN.out]
        have hrow := Rw.row HR.out hrw (by rw [hp.1])
        have hcw : ∀ t, t < N → wr.cell? ⟨blk, off + t, none⟩ = some (.int .u8 (G t)) := fun t ht => by rw [hG]; exact hrow.cell (by omega)
        have hfw : ∀ t, t < N → wr.frozen? ⟨blk, off + t, none⟩ = false := fun t ht => hrow.frozen (by omega)
        have HW2 := Lib.hid hrw
        have HP2 := Lib.hid hp
        have HI := Lib.hid hins
        have HG := Lib.hid hG
        have HZ := Lib.hid hsz
        clear hrw hp hins hG hrow hsz
        by_cases hja : a < j
        · go_wp2_with fail
          go_quiet (first | (go_at_call 96; refine Calls.quiet_of_same (less_b _ _ _)))
          go_wp2
          · have hl : ltI (G j) (G (j - 1)) = true := by assumption
            go_region
            all_goals go_wp2
            go_roundw
            case rel =>
              refine ⟨j - 1, swp dj j (j - 1), by congr 1; omega, by omega, by omega, ?_, perm_swp HP2.out (by omega) (by omega) (by omega) (by omega) (by rw [← HN.out]; exact hb), ?_⟩
              · have h := (Rw.swap HR.out (HW2.out.drewN nq) (i := j) (j := j - 1) (by rw [HZ.out]; omega) (by rw [HZ.out]; omega)).drew
                rw [← HG.out, ← HG.out] at h
                exact h
              · obtain ⟨j', rfl⟩ : ∃ j', j = j' + 1 := ⟨j - 1, by omega⟩
                exact Ins.step HI.out (by rw [← HG.out, ← HG.out]; exact hl) (by omega) (by rw [HZ.out]; omega)
            case measure => simp [intOf]; omega
          · have hl : ltI (G j) (G (j - 1)) = false := by assumption
            go_roundw
            case rel => exact ⟨i + 1, dj, by go_num, by omega, by omega, HW2.out.drewN nq, HP2.out, by omega, Ins.stop swoI HI.out (Or.inr (by rw [← HG.out, ← HG.out]; exact hl))⟩
            case measure => simp [intOf]; omega
        · go_wp2_with fail
          go_quiet (first | (go_at_call 96; refine Calls.quiet_of_same (less_b _ _ _)))
          go_wp2
          go_roundw
          case rel => exact ⟨i + 1, dj, by go_num, by omega, by omega, HW2.out.drewN nq, HP2.out, by omega, Ins.stop swoI HI.out (Or.inl (by omega))⟩
          case measure => simp [intOf]; omega
    · go_wp2_with fail
      go_end0
      refine ⟨rfl, dk, HW.out, HP.out, ?_⟩
      rcases hib2 with h | h
      · have : i = b := by omega
        exact this ▸ HS.out
      · exact fun p q h1 h2 h3 => by omega
#print axioms insertion_b
end Go.Proofs.Ytbnlkmblkokooaa

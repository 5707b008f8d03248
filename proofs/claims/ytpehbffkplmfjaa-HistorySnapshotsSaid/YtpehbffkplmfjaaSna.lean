/- Contract of allowed. -/
import Derived.Test.YtpehbffkplmfjaaSnq
namespace Go.Proofs.Ytpehbffkplmfjaa
open Go.RowKit
/-- two transactions that overlap write one item -/
def Bad (h : List NOp) (W : Nat → Nat) (a c : Nat) : Prop := Ovl h a c ∧ W a &&& W c ≠ 0
instance (h : List NOp) (W : Nat → Nat) (a c : Nat) : Decidable (Bad h W a c) := inferInstanceAs (Decidable (_ ∧ _))
set_option maxRecDepth 100000 in
set_option maxHeartbeats 4000000 in
theorem allowed1_any {w : World} {b ps pk : Nat} {h : List NOp} {W F : Nat → Nat} {v : Value} {ok : Bool} (s : SnB w b h W F v) (hp : w.cell? ⟨ps, 0, none⟩ = some (.pointer (some ⟨b, 0, none⟩))) (hk : Blk w pk 4 1 fun _ => .bool ok)
    {x y : Nat} (hx : x < 7) (hy : y < 7) (hW : ∀ x, W x < 128) :
    Calls Try.prog 99 #[.int .i64 x, .int .i64 y, .pointer (some ⟨ps, 0, none⟩), .pointer (some ⟨pk, 0, none⟩)] w fun e w' => e = .returned (.tuple #[]) ∧ Blk w' pk 4 1 (fun _ => .bool (if Bad h W x y then false else ok)) ∧ w.grownBy w' (some pk) := by
  have HO := Lib.hid (fun m B (hB : decide (Ovl h x y) = B) => overlap_any (s.drewN m) hx hy B hB)
  have hand := bits_and_nat (W x) (W y) (by have := hW x; omega) (by have := hW y; omega)
  have c1 := s.wr hx
  have c2 := s.wr hy
  have ck := Blk.at hk (show 0 < 1 by omega)
  have fk := Blk.fz hk 0
  obtain ⟨f, h1⟩ : ∃ p, p = W x := ⟨_, rfl⟩
  obtain ⟨g, h2⟩ : ∃ p, p = W y := ⟨_, rfl⟩
  obtain ⟨z, hz⟩ : ∃ z, z = f &&& g := ⟨_, rfl⟩
  rw [← h1] at c1
  rw [← h2] at c2
  rw [← h1, ← h2, ← hz] at hand
  have HBt := Lib.hid (fun (q1 : Ovl h x y) (q2 : z ≠ 0) => show (if Bad h W x y then false else ok) = false from if_pos ⟨q1, by rw [← h1, ← h2, ← hz]; exact q2⟩)
  have HBf := Lib.hid (fun (q : ¬ (Ovl h x y ∧ z ≠ 0)) => show (if Bad h W x y then false else ok) = ok from if_neg (fun r => q ⟨r.1, by rw [hz, h1, h2]; exact r.2⟩))
  obtain ⟨R, hR⟩ : ∃ R, R = (if Bad h W x y then false else ok) := ⟨_, rfl⟩
  rw [← hR] at HBt HBf ⊢
  have Hk := Lib.hid hk
  have hxa : (x : Int) < 7 := by omega
  have hxb : (0 : Int) ≤ (x : Int) := by omega
  have hya : (y : Int) < 7 := by omega
  have hyb : (0 : Int) ≤ (y : Int) := by omega
  clear s hk hW h1 h2 hz hR hx hy
  by_cases q1 : Ovl h x y
  · have HC := Lib.hid (fun m => HO.out m true (decide_eq_true q1))
    by_cases q2 : z = 0
    · have d2 : ((z : Int) != 0) = false := by rw [bne_eq_false_iff_eq]; omega
      have HR := Lib.hid (HBf.out (fun r => r.2 q2))
      clear q1 q2 HO
      go_enter Try.func99, Try.ntmps99
      go_wp2_with fail
      go_quiet (first | (go_at_call 71; exact Calls.quiet_of (HC.out _)))
      go_wp2_with fail
      go_end0
      exact ⟨rfl, by rw [HR.out]; exact Hk.out, ⟨rfl, rfl, rfl, Nat.le_refl _, fun _ _ _ => rfl⟩⟩
    · have d2 : ((z : Int) != 0) = true := by rw [bne_iff_ne]; omega
      have HR := Lib.hid (HBt.out q1 q2)
      clear q1 q2 HO
      go_enter Try.func99, Try.ntmps99
      go_wp2_with fail
      go_quiet (first | (go_at_call 71; exact Calls.quiet_of (HC.out _)))
      go_wp2_with fail
      go_end0
      refine ⟨rfl, ?_, ?_⟩
      · rw [HR.out]
        refine Blk.congr (Blk.put (show Blk (w.drewN nq) pk 4 1 _ from Hk.out) 0 (.bool false)) fun j hj => ?_
        rw [if_pos (by omega)]
      · exact ⟨rfl, rfl, rfl, by simp, fun k _ hne => heap_setCell_other (w.drewN nq) ⟨pk, 0, none⟩ k _ (fun e => hne (by rw [e]))⟩
  · have HC := Lib.hid (fun m => HO.out m false (decide_eq_false q1))
    have HR := Lib.hid (HBf.out (fun r => q1 r.1))
    clear q1 HO
    go_enter Try.func99, Try.ntmps99
    go_wp2_with fail
    go_quiet (first | (go_at_call 71; exact Calls.quiet_of (HC.out _)))
    go_wp2_with fail
    go_end0
    exact ⟨rfl, by rw [HR.out]; exact Hk.out, ⟨rfl, rfl, rfl, Nat.le_refl _, fun _ _ _ => rfl⟩⟩
theorem ent99 (c1 c2 : Value) (x y : Int) (w : World) : (callFunc 99 #[.int .i64 x, .int .i64 y, c1, c2]).run Try.prog w = .ok (.enter 99 #[.int .i64 x, .int .i64 y, c1, c2]) w := by
  kernel_rfl
#print axioms allowed1_any
end Go.Proofs.Ytpehbffkplmfjaa

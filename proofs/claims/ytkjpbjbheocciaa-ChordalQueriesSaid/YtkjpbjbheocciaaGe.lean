/- Contracts of order, Order; the reference's Order. -/
import Derived.Test.YtkjpbjbheocciaaOwn
import Derived.Test.YtkjpbjbheocciaaCount
import Derived.Test.YtkjpbjbheocciaaGb
namespace Go.Proofs.Ytkjpbjbheocciaa
open Go.RowKit

theorem isClique_b {g : List Nat} (hg : Gr g) (s : Nat) (b : Bool) (h : decide (Cliq g s) = b) (hs : s < 4096) (v : Value) (w : World) (hv : Ints w v (castN g)) :
    Calls Try.prog 73 #[v, .int .i64 s] w fun e w' => e = .returned (.bool b) ∧ w = w' := by
  subst h; exact isClique_any hg s hs v w hv
theorem isCliqueR_b {g : List Nat} (hg : Gr g) (s : Nat) (b : Bool) (h : decide (Cliq g s) = b) (hs : s < 4096) (v : Value) (w : World) (hv : Ints w v (castN g)) :
    Calls Try.prog 75 #[v, .int .i64 s] w fun e w' => e = .returned (.bool b) ∧ ∃ q, w' = w.drewN q := by
  subst h; exact isCliqueR_any hg s hs v w hv
theorem all_g (a : Option Addr) (n c F : Nat) (hn : n ≤ 14) (hF : F = 2 ^ n) (w : World) :
    Calls Try.prog 70 #[.slice a n c] w fun e w' => e = .returned (.int .i64 ((F - 1 : Nat) : Int)) ∧ w = w' := by
  subst hF; exact all_any a n c hn w
/-- the first k picks in a row of the call's own -/
def ElimRow (g : List Nat) (base : Nat) (w : World) (o : Value) (k : Nat) : Prop := OwnInts base w o (castN (elim g k).1)
theorem ElimRow.keep {g : List Nat} {base k : Nat} {w w' : World} {o : Value} (h : ElimRow g base w o k) (hb : Below w.heap.size w w') : ElimRow g base w' o k := OwnInts.keep h hb
theorem ElimRow.snoc {g : List Nat} {base k x : Nat} {w : World} {o : Value} (hp : pick g (elim g k).2 = some x) (h : w.ownsRow base 3 1 o ((castN (elim g k).1).length + 1) ((castN (elim g k).1).map (Value.int .i64) ++ [.int .i64 x])) : ElimRow g base w o (k + 1) := by
  unfold ElimRow
  rw [elim_some hp, castN_append]
  exact OwnInts.snoc h

def OrderPost (g : List Nat) (w : World) (e : Ending) (w' : World) : Prop := ∃ v', e = .returned (.tuple #[v', .bool (decide (Chordal g))]) ∧ Ints w' v' (if Chordal g then castN (order g) else []) ∧ Below w.heap.size w w'
set_option maxRecDepth 100000 in
set_option maxHeartbeats 4000000 in
theorem order_any {g : List Nat} (hg : Gr g) (v : Value) (w : World) (hv : Ints w v (castN g)) :
    Calls Try.prog 68 #[v] w (OrderPost g w) := by
  obtain ⟨a, b, off, cap, rfl, hle, ha, hc⟩ := Ints.graph hv
  have hix := run_ix (P := Try.prog) (t := 27) (a := a) (len := g.length) (cap := cap) (b := b) (off := off) (s := 1) Try.underlying27 (by intro w; kernel_rfl) ha
  simp only [Nat.mul_one] at hix
  have Hc := Lib.hid hc
  have Hv := Lib.hid hv
  have HG := Lib.hid hg
  have hn12 := hg.le
  obtain ⟨F, hF, f1, f2, f3⟩ := pow_name g.length hn12
  have HF := Lib.hid hF
  have Hstart := Lib.hid (show ElimRow g w.heap.size w (.slice none 0 0) 0 from ownInts_nil _ _)
  clear ha hv hc hg hF
  go_enter Try.func68, Try.ntmps68
  go_wp2_with fail
  refine (all_g _ _ _ F (by omega) HF.out _).mono ?_
  rintro e w' ⟨rfl, rfl⟩
  have h0 : (elim g 0).2 = F - 1 := by show 2 ^ g.length - 1 = _; rw [HF.out]
  have H0 := Lib.hid h0
  clear h0
  go_wp2_with fail
  go_loopw [4, 5] (fun o s wr => ∃ k L : Nat, s = .int .i64 L ∧ L = (elim g k).2 ∧ (elim g k).1.length = k ∧ Below w.heap.size w wr ∧ ElimRow g w.heap.size wr o k) (fun _ s _ => (intOf s).toNat)
  case atStart => exact ⟨0, F - 1, rfl, H0.out.symm, rfl, Below.refl _ _, Hstart.out⟩
  case round =>
    obtain ⟨k, L, rfl, hL, hlen, hb, hown⟩ := hrel
    have HL := Lib.hid hL
    have Hlen := Lib.hid hlen
    have Hb := Lib.hid hb
    have Hown := Lib.hid hown
    have hL2 : L < 4096 := by rw [hL]; exact lt63 (elim_lt g k) hn12
    clear hL hlen hb hown
    by_cases hL0 : L = 0
    · have q0 : ((L : Int) != 0) = false := by rw [hL0]; rfl
      have E := Lib.hid (elim_end Hlen.out (by rw [← HL.out, hL0]; exact pick_zero g))
      have HC := Lib.hid (show Chordal g by unfold Chordal; rw [E.out, ← HL.out, hL0])
      have HR := Lib.hid (show Ints wr u4 (if Chordal g then castN (order g) else []) by rw [if_pos HC.out]; unfold order; rw [E.out]; exact OwnInts.ints Hown.out)
      clear hL0
      go_wp2_with fail
      go_ret2
      exact ⟨_, by rw [decide_eq_true HC.out]; rfl, HR.out, Hb.out⟩
    · have q0 : ((L : Int) != 0) = true := by rw [bne_iff_ne]; omega
      go_wp2_with fail
      obtain ⟨wo, rfl⟩ : ∃ wo : World, wo = wr := ⟨_, rfl⟩
      go_loopw [6] (fun i wr => ∃ x : Nat, i = .int .i64 x ∧ x ≤ g.length ∧ wr = wo ∧ ∀ y, y < x → Simp g L y = false) (fun i _ => g.length - (intOf i).toNat)
      case atStart => exact ⟨0, rfl, Nat.zero_le _, rfl, fun q hq => by omega⟩
      case round =>
        obtain ⟨x, rfl, hx, hwr, hin⟩ := hrel
        subst hwr
        have Hin := Lib.hid hin
        clear hin
        by_cases hlt : x < g.length
        · have hc1 := Below.keep Hb.out (Hc.out x hlt)
          have hixk := hix x
          have hnb := lt63 (HG.out.lt x hlt) hn12
          obtain ⟨P, hP, p1, p2, p3⟩ := pow_name x (by omega)
          cases hbit : L.testBit x with
          | false =>
            have R := Lib.hid (show ∀ y, y < x + 1 → Simp g L y = false from fun y hy => by
              by_cases e : y = x
              · subst e; simp [Simp, hbit]
              · exact Hin.out y (by omega))
            have Hbit := Lib.hid hbit
            clear hbit hP
            go_wp2_with fail
            refine (has_b L x false Hbit.out (by omega) (by omega) _).mono ?_
            rintro e w' ⟨rfl, rfl⟩
            go_wp2_with fail
            go_roundw
            case rel => exact ⟨x + 1, by go_num, by omega, trivial, R.out⟩
            case measure => simp [intOf]; omega
          | true =>
            have Hbit := Lib.hid hbit
            obtain ⟨z, hz⟩ : ∃ z, z = nb g x := ⟨_, rfl⟩
            rw [← hz] at hc1 hnb
            have hand := bits_and_nat z L (by omega) (by omega)
            have hand2 : z &&& L ≤ L := Nat.and_le_right
            by_cases hcl : Cliq g (z &&& L)
            · have hS : Simp g L x = true := by unfold Simp; rw [hbit, ← hz, decide_eq_true hcl]; rfl
              have HP2 := Lib.hid (show pick g (elim g k).2 = some x by rw [← HL.out]; exact pick_some hlt hS Hin.out)
              have Hcl := Lib.hid (decide_eq_true hcl)
              have qx : ((x : Int) == (g.length : Int)) = false := by rw [beq_eq_false_iff_ne]; omega
              have hdn := bits_andNot_nat L P (by omega) (by omega)
              have hdl : ndiff L P < L := by rw [hP]; exact ndiff_bit_lt hbit
              have Hd := Lib.hid (show ndiff L P = (elim g (k + 1)).2 by rw [elim_some HP2.out, ← HL.out, hP])
              have Hln := Lib.hid (elim_len_some Hlen.out HP2.out)
              have hkl := elim_le Hlen.out
              have HZ := Lib.hid hz
              have Hll := Lib.hid (show (castN (elim g k).1).length ≤ 12 by rw [castN_length, Hlen.out]; omega)
              clear hbit hP hcl hS hz
              go_wp2_with fail
              refine (has_b L x true Hbit.out (by omega) (by omega) _).mono ?_
              rintro e w' ⟨rfl, rfl⟩
              go_wp2_with fail
              refine (isClique_b HG.out (z &&& L) true Hcl.out (by omega) _ _ (Ints.keep Hv.out Hb.out)).mono ?_
              rintro e w' ⟨rfl, rfl⟩
              go_wp2_with (at_builtin; refine append_own rfl (.tmp 37) (.tmp 39) 22 rfl elemInts rfl (World.ownsRow.alloc Hown.out _) [.int .i64 x] rfl rfl ?c1 ?c2 ?c3 ?c4 ?_)
              case c1 => intro j u hj; go_simp
              case c2 => intro u hu; simp at hu; subst hu; rfl
              case c3 => have := Hll.out; omega
              case c4 => simp; have := Hb.out.size; omega
              intro v' w' h1 h2 _
              have R := Lib.hid (ElimRow.snoc HP2.out h1)
              have hb' := Lib.hid (show Below w.heap.size w w' from (Below.tr Hb.out (below_alloc _ _)).trans h2)
              clear h1 h2
              go_wp2_with fail
              go_roundw
              case rel => exact ⟨k + 1, ndiff L P, rfl, Hd.out, Hln.out, hb'.out, R.out⟩
              case measure => simp [intOf]; omega
            · have R := Lib.hid (show ∀ y, y < x + 1 → Simp g L y = false from fun y hy => by
                by_cases e : y = x
                · subst e; unfold Simp; rw [← hz, decide_eq_false hcl]; simp
                · exact Hin.out y (by omega))
              have Hcl := Lib.hid (decide_eq_false hcl)
              clear hbit hP hcl hz
              go_wp2_with fail
              refine (has_b L x true Hbit.out (by omega) (by omega) _).mono ?_
              rintro e w' ⟨rfl, rfl⟩
              go_wp2_with fail
              refine (isClique_b HG.out (z &&& L) false Hcl.out (by omega) _ _ (Ints.keep Hv.out Hb.out)).mono ?_
              rintro e w' ⟨rfl, rfl⟩
              go_wp2_with fail
              go_roundw
              case rel => exact ⟨x + 1, by go_num, by omega, trivial, R.out⟩
              case measure => simp [intOf]; omega
        · obtain rfl : x = g.length := by omega
          have E := Lib.hid (elim_end Hlen.out (by rw [← HL.out]; exact pick_none Hin.out))
          have HC := Lib.hid (show ¬ Chordal g by unfold Chordal; rw [E.out, ← HL.out]; exact hL0)
          have HR := Lib.hid (show Ints wr (.slice none 0 0) (if Chordal g then castN (order g) else []) by rw [if_neg HC.out]; exact ints_nil _)
          have qx : ((g.length : Int) == (g.length : Int)) = true := by simp
          go_wp2_with fail
          go_ret2
          exact ⟨_, by rw [decide_eq_false HC.out]; rfl, HR.out, Hb.out⟩
#print axioms order_any
end Go.Proofs.Ytkjpbjbheocciaa

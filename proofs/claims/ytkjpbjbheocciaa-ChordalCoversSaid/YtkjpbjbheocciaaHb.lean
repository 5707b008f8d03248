/- Contracts of hole, Hole. -/
import Derived.Test.YtkjpbjbheocciaaHa
namespace Go.Proofs.Ytkjpbjbheocciaa
open Go.RowKit

def HoleRes (r : Option (List Nat)) (w' : World) (v' : Value) : Prop := match r with
  | none => v' = .slice none 0 0
  | some l => (∃ a n c, v' = .slice (some a) n c) ∧ Ints w' v' (castN l)
def HolePost (r : Option (List Nat)) (w : World) (e : Ending) (w' : World) : Prop := ∃ v', e = .returned v' ∧ HoleRes r w' v' ∧ Below w.heap.size w w'
theorem own_some {w : World} {base : Nat} {e : TypeId} {size : Nat} {v : Value} {n : Nat} {xs : List Value} (h : w.ownsRow base e size v n xs) (hn : 0 < n) : ∃ a c, v = .slice (some a) n c := by
  rcases h.2 with ⟨rfl, h0⟩ | ⟨g, cap, cur, rfl, _⟩
  · omega
  · exact ⟨_, _, rfl⟩
theorem ft_le {α : Type} {f : Nat → Option α} {s t : Nat} (h : ft f s = none) (hts : t ≤ s) : ft f t = none := by
  cases e : ft f t with
  | none => rfl
  | some l =>
    have := ft_some e (s - t)
    rw [show t + (s - t) = s by omega, h] at this
    cases this
theorem ft_hit {α : Type} {f : Nat → Option α} {x n : Nat} {l : α} (h : ft f x = none) (h1 : f x = some l) (hx : x < n) : ft f n = some l := by
  have h2 : ft f (x + 1) = some l := by rw [ft_none h]; exact h1
  have := ft_some h2 (n - (x + 1))
  rwa [show x + 1 + (n - (x + 1)) = n by omega] at this
theorem mayFollow_b {g : List Nat} (hg : Gr g) {k : Nat} (h4 : 4 ≤ k) (hk12 : k ≤ 12) (l : List Nat) (h1 : 1 ≤ l.length) (hlk : l.length < k) (hw : Hw g k l) (x : Nat) (hx : x < g.length) (b : Bool) (hb : decide (Hw g k (l ++ [x])) = b) (v u : Value) (w : World) (hv : Ints w v (castN g)) (hu : Ints w u (castN l)) :
    Calls Try.prog 77 #[v, u, .int .i64 x, .int .i64 k] w fun e w' => e = .returned (.bool b) ∧ ∃ q, w' = w.drewN q := by
  have hl : ∀ y ∈ l, y < g.length := fun y hy => by
    obtain ⟨i, hi, rfl⟩ := mem_at.1 hy
    exact (hw.1 i hi).1.1
  have := mayFollow_any hg h4 hk12 l h1 hlk hl x hx v u w hv hu
  rwa [decide_eq_decide.2 (may_iff h4 h1 hlk hw hx), hb] at this

set_option maxRecDepth 100000 in
set_option maxHeartbeats 4000000 in
theorem hole_any {g : List Nat} (hg : Gr g) {k : Nat} (h4 : 4 ≤ k) (hk12 : k ≤ 12) : ∀ (m : Nat) (l : List Nat) (v u : Value) (w : World), l.length + m = k → 1 ≤ l.length → Hw g k l → Ints w v (castN g) → Ints w u (castN l) → (∃ a n c, u = .slice (some a) n c) →
    Calls Try.prog 76 #[v, u, .int .i64 k] w (HolePost (hl g k m l) w) := by
  intro m
  induction m with
  | zero =>
    intro l v u w hk h1 hw hv hu hs
    obtain ⟨a, c, rfl⟩ := ints_slice hv
    obtain ⟨ad, n, cp, rfl⟩ := hs
    obtain ⟨-, hn⟩ := Rd.cap hu
    rw [castN_length] at hn
    have q : ((n : Int) == (k : Int)) = true := by rw [beq_iff_eq]; omega
    have Hu := Lib.hid hu
    clear hu hv hw hn hk h1
    go_enter Try.func76, Try.ntmps76
    go_wp2_with fail
    go_ret
    exact ⟨_, rfl, ⟨⟨_, _, _, rfl⟩, Hu.out⟩, Below.refl _ _⟩
  | succ m ih =>
    intro l v u w hk h1 hw hv hu hs
    have IH := Lib.hid ih
    obtain ⟨a, c, rfl⟩ := ints_slice hv
    obtain ⟨ad, n, cp, rfl⟩ := hs
    obtain ⟨-, hn⟩ := Rd.cap hu
    rw [castN_length] at hn
    have q : ((n : Int) == (k : Int)) = false := by rw [beq_eq_false_iff_ne]; omega
    have hn12 : n ≤ 12 := by omega
    have hgl := castN_length g
    rw [hgl] at hv ⊢
    have hg12 := hg.le
    have Hu := Lib.hid hu
    have Hv := Lib.hid hv
    have Hw1 := Lib.hid hw
    have HG := Lib.hid hg
    have Hn := Lib.hid hn
    have Hk := Lib.hid hk
    obtain ⟨F, hF⟩ : ∃ F : Nat → Option (List Nat), F = fun x => if Hw g k (l ++ [x]) then hl g k m (l ++ [x]) else none := ⟨_, rfl⟩
    have HFl := Lib.hid (show hl g k (m + 1) l = ft F g.length by rw [hF]; rfl)
    have HFy := Lib.hid (show ∀ x, Hw g k (l ++ [x]) → F x = hl g k m (l ++ [x]) from fun x h => by rw [hF]; exact if_pos h)
    have HFn := Lib.hid (show ∀ x, ¬ Hw g k (l ++ [x]) → F x = none from fun x h => by rw [hF]; exact if_neg h)
    have hneN := fun w' => run_neq_slice_nil_any (P := Try.prog) w' 22 3 none 0 0 0 0 Try.underlying22
    clear hu hv hw hg hn hk ih hF hgl
    go_enter Try.func76, Try.ntmps76
    go_wp2_with fail
    go_loopw [16] (fun i wr => ∃ x : Nat, i = .int .i64 x ∧ x ≤ g.length ∧ Below w.heap.size w wr ∧ ft F x = none) (fun i _ => g.length - (intOf i).toNat)
    case atStart => exact ⟨0, rfl, Nat.zero_le _, Below.refl _ _, rfl⟩
    case round =>
      obtain ⟨x, rfl, hx, hb, hin⟩ := hrel
      have Hb := Lib.hid hb
      have Hin := Lib.hid hin
      clear hb hin
      by_cases hlt : x < g.length
      · by_cases hnext : Hw g k (l ++ [x])
        · have Hnx := Lib.hid hnext
          have HF1 := Lib.hid (HFy.out x hnext)
          clear hnext
          go_wp2_with fail
          refine (mayFollow_b HG.out h4 hk12 l h1 (by have := Hk.out; omega) Hw1.out x hlt true (decide_eq_true Hnx.out) _ _ _ (Ints.keep Hv.out Hb.out) (Ints.keep Hu.out Hb.out)).mono ?_
          rintro e w2 ⟨rfl, q2, hw2⟩
          have Hb2 := Lib.hid (show Below w.heap.size w w2 by rw [hw2]; exact bdrewN Hb.out q2)
          clear hw2
          go_wp2_with fail
          refine (cloneI_any _ _ _ (by rw [castN_length]; have := Hk.out; omega) (Ints.keep Hu.out Hb2.out)).mono ?_
          rintro e w3 ⟨v3, rfl, ho3, hb3⟩
          obtain ⟨oa, on, oc, rfl⟩ := own_slice ho3
          have Ho3 := Lib.hid ho3
          have Hb3 := Lib.hid (Below.tr Hb2.out hb3)
          have Hz3 := Lib.hid (hb3.size)
          clear ho3 hb3
          go_wp2_with (at_builtin; refine append_own rfl (.tmp 27) (.tmp 29) 22 rfl elemInts rfl (World.ownsRow.alloc Ho3.out _) [.int .i64 x] rfl rfl ?c1 ?c2 ?c3 ?c4 ?_)
          case c1 => intro j u hj; go_simp
          case c2 => intro u hu; simp at hu; subst hu; rfl
          case c3 => rw [castN_length]; have := Hk.out; omega
          case c4 => simp; have := Hz3.out; omega
          intro v' w4 h1' h2' _
          have Hb4 := Lib.hid (show Below w.heap.size w w4 from (Below.tr Hb3.out (below_alloc _ _)).trans (h2'.mono Hb2.out.size))
          have R4 := Lib.hid (show Ints w4 v' (castN (l ++ [x])) by rw [castN_append]; exact OwnInts.ints (OwnInts.snoc h1'))
          obtain ⟨na, nc, rfl⟩ := own_some h1' (by omega)
          clear h1' h2'
          go_wp2_with fail
          refine (IH.out (l ++ [x]) _ _ _ (by simp; have := Hk.out; omega) (by simp) Hnx.out (Ints.keep Hv.out Hb4.out) R4.out ⟨_, _, _, rfl⟩).mono ?_
          rintro e w5 ⟨v5, rfl, hr5, hb5⟩
          have Hb5 := Lib.hid (Below.tr Hb4.out hb5)
          clear hb5
          cases hres : hl g k m (l ++ [x]) with
          | none =>
            rw [hres] at hr5
            have h5 : v5 = .slice none 0 0 := hr5
            subst h5
            have R := Lib.hid (show ft F (x + 1) = none by rw [ft_none Hin.out, HF1.out, hres])
            clear hres hr5
            go_wp2_with fail
            go_roundw
            case rel => exact ⟨x + 1, by go_num, by omega, Hb5.out, R.out⟩
            case measure => simp [intOf]; omega
          | some r =>
            rw [hres] at hr5
            obtain ⟨⟨ra, rn, rc, rfl⟩, hri⟩ := hr5
            have Hri := Lib.hid hri
            have R := Lib.hid (show hl g k (m + 1) l = some r by rw [HFl.out]; exact ft_hit Hin.out (by rw [HF1.out, hres]) hlt)
            have hneS := fun w' => run_neq_slice_nil_any (P := Try.prog) w' 22 3 (some ra) rn rc 0 0 Try.underlying22
            clear hres hri
            go_wp2_with fail
            go_ret
            exact ⟨_, rfl, by rw [R.out]; exact ⟨⟨_, _, _, rfl⟩, Hri.out⟩, Hb5.out⟩
        · have R := Lib.hid (show ft F (x + 1) = none by rw [ft_none Hin.out, HFn.out x hnext])
          have Hnx := Lib.hid hnext
          clear hnext
          go_wp2_with fail
          refine (mayFollow_b HG.out h4 hk12 l h1 (by have := Hk.out; omega) Hw1.out x hlt false (decide_eq_false Hnx.out) _ _ _ (Ints.keep Hv.out Hb.out) (Ints.keep Hu.out Hb.out)).mono ?_
          rintro e w2 ⟨rfl, q2, hw2⟩
          have Hb2 := Lib.hid (show Below w.heap.size w w2 by rw [hw2]; exact bdrewN Hb.out q2)
          clear hw2
          go_wp2_with fail
          go_roundw
          case rel => exact ⟨x + 1, by go_num, by omega, Hb2.out, R.out⟩
          case measure => simp [intOf]; omega
      · obtain rfl : x = g.length := by omega
        have R := Lib.hid (show hl g k (m + 1) l = none by rw [HFl.out]; exact Hin.out)
        go_wp2_with fail
        go_ret
        exact ⟨_, rfl, by rw [R.out]; rfl, Hb.out⟩
#print axioms hole_any
end Go.Proofs.Ytkjpbjbheocciaa

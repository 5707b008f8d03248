/- Contracts of depend.containsOne, Keys. -/
import Derived.Test.YtnidalbfmicoiaaWalkF
import Derived.Test.YtnidalbfmicoiaaFacts
namespace Go.Proofs.Ytnidalbfmicoiaa
open Go.RowKit

def castN (l : List Nat) : List Int := l.map fun x : Nat => (x : Int)
def HasSub (s : Nat) (ps : List Nat) : Prop := ∃ p ∈ ps, Sub p s
instance (s : Nat) (ps : List Nat) : Decidable (HasSub s ps) := inferInstanceAs (Decidable (∃ p ∈ ps, _))

theorem containsOne_any (s : Nat) (ps : List Nat) (hs : s < 256) (hps : ∀ p ∈ ps, p < 256) (v : Value) (w : World) (hv : Ints w v (castN ps)) :
    Calls Try.prog 80 #[.int .i64 s, v] w fun e w' => e = .returned (.bool (decide (HasSub s ps))) ∧ w = w' := by
  obtain ⟨a, b, off, cap, rfl, hle, ha, hc⟩ := Ints.get hv
  have e0 : (castN ps).length = ps.length := by simp [castN]
  rw [e0] at hle ha
  have hc' : ∀ i (h : i < ps.length), w.cell? ⟨b, off + i, none⟩ = some (.int .i64 ((ps[i] : Nat) : Int)) := fun i hi => by
    have := hc i (by omega); simpa [castN] using this
  have hix := run_ix (P := Try.prog) (t := 56) (a := a) (len := ps.length) (cap := cap) (b := b) (off := off) (s := 1) Try.underlying56 (by intro w; kernel_rfl) ha
  simp only [Nat.mul_one] at hix
  have Hc := Lib.hid hc'
  have Hps := Lib.hid hps
  rw [e0]
  clear ha hc hc' hv e0 hps
  go_enter Try.func80, Try.ntmps80
  go_wp2
  go_loop [9] (fun i => ∃ k : Nat, i = .int .i64 k ∧ k ≤ ps.length ∧ AllTo (fun p => ¬ Sub p s) ps k) (fun i => ps.length - (intOf i).toNat)
  case atStart => exact ⟨0, rfl, Nat.zero_le _, fun i _ h => by omega⟩
  case round =>
    obtain ⟨k, rfl, hk, hin⟩ := hrel
    have Hin := Lib.hid hin
    clear hin
    by_cases hlt : k < ps.length
    · have hc1 := Hc.out k hlt
      have hp := Hps.out _ (List.getElem_mem hlt)
      have t1 := test_sub ps[k] s (by omega) (by omega)
      by_cases hS : Sub ps[k] s
      · have R : decide (HasSub s ps) = true := decide_eq_true ⟨_, List.getElem_mem hlt, hS⟩
        have HR := Lib.hid R
        clear R
        go_wp2
        go_ret
        exact ⟨congrArg (fun b => Ending.returned (.bool b)) HR.out.symm, rfl⟩
      · have R := Hin.out.step hlt hS
        go_wp2
        go_round
        case rel => exact ⟨k + 1, by go_num, by omega, R⟩
        case measure => simp [intOf]; omega
    · obtain rfl : k = ps.length := by omega
      have R : decide (HasSub s ps) = false := decide_eq_false fun ⟨p, hp, hS⟩ => Hin.out.all p hp hS
      have HR := Lib.hid R
      clear R
      go_wp2
      go_ret
      exact ⟨congrArg (fun b => Ending.returned (.bool b)) HR.out.symm, rfl⟩

/-- the keys below k -/
def keysTo (l : List DepN) (F : Nat) : Nat → List Nat
  | 0 => []
  | k + 1 => if cl l k = F ∧ ¬ HasSub k (keysTo l F k) then keysTo l F k ++ [k] else keysTo l F k
theorem keysTo_lt (l : List DepN) (F : Nat) : ∀ k, ∀ x ∈ keysTo l F k, x < k
  | 0, x, h => by simp [keysTo] at h
  | k + 1, x, h => by
    rw [keysTo] at h
    split at h
    · rcases List.mem_append.1 h with h | h
      · have := keysTo_lt l F k x h; omega
      · simp at h; omega
    · have := keysTo_lt l F k x h; omega
theorem keysTo_length (l : List DepN) (F : Nat) : ∀ k, (keysTo l F k).length ≤ k
  | 0 => by simp [keysTo]
  | k + 1 => by
    have := keysTo_length l F k
    rw [keysTo]
    split
    · simp; omega
    · omega

theorem ints_nil (w : World) : Ints w (.slice none 0 0) [] := ⟨rfl, Nat.zero_le _, none, 0, 0, 0, rfl, ⟨fun h => by simp at h, by simp⟩, fun j hj => by simp at hj⟩

/-- the row of the keys below k -/
def KeysRow (l : List DepN) (F base : Nat) (w : World) (o : Value) (k : Nat) : Prop := w.ownsRow base 3 1 o (keysTo l (F - 1) k).length ((castN (keysTo l (F - 1) k)).map (Value.int .i64))
theorem KeysRow.ints {l : List DepN} {F base k : Nat} {w : World} {o : Value} (h : KeysRow l F base w o k) : Ints w o (castN (keysTo l (F - 1) k)) := by
  have := owns_rd h
  unfold Ints
  rw [show (castN (keysTo l (F - 1) k)).length = (keysTo l (F - 1) k).length by simp [castN]]
  exact this
theorem KeysRow.keep {l : List DepN} {F base k : Nat} {w w' : World} {o : Value} (h : KeysRow l F base w o k) (hb : Below w.heap.size w w') : KeysRow l F base w' o k := owns_keep h hb
theorem KeysRow.hit {l : List DepN} {F base k : Nat} {w : World} {o : Value} (h1 : cl l k = F - 1) (h2 : ¬ HasSub k (keysTo l (F - 1) k)) (h : w.ownsRow base 3 1 o ((keysTo l (F - 1) k).length + 1) ((castN (keysTo l (F - 1) k)).map (Value.int .i64) ++ [.int .i64 k])) : KeysRow l F base w o (k + 1) := by
  unfold KeysRow
  rw [keysTo, if_pos ⟨h1, h2⟩]
  simpa [castN] using h
theorem KeysRow.miss {l : List DepN} {F base k : Nat} {w : World} {o : Value} (h : KeysRow l F base w o k) (h1 : ¬ (cl l k = F - 1 ∧ ¬ HasSub k (keysTo l (F - 1) k))) : KeysRow l F base w o (k + 1) := by
  unfold KeysRow
  rw [keysTo, if_neg h1]
  exact h
theorem keys_bad (n : Int) (l : List (Int × Int)) (v : Value) (w : World) (hv : Deps w v l) (hbad : ¬ ValidP n l []) :
    Calls Try.prog 39 #[.int .i64 n, v] w fun e w' => e = .returned (.tuple #[.slice none 0 0, .int .i64 2]) ∧ Below w.heap.size w w' := by
  have H := Lib.hid (valid_no hv (ints_nil w) hbad)
  clear hv hbad
  go_enter Try.func39, Try.ntmps39
  go_wp2_with fail
  refine H.out.mono ?_
  rintro e w1 ⟨rfl, hb1⟩
  go_wp2_with fail
  go_ret2
  exact ⟨rfl, hb1⟩

theorem full_F {m F : Nat} (hF : F = 2 ^ m) (hm : m ≤ 8) (w : World) :
    Calls Try.prog 79 #[.int .i64 m] w fun e w' => e = .returned (.int .i64 ((F - 1 : Nat) : Int)) ∧ w = w' := by subst hF; exact full_any m hm w
set_option maxRecDepth 100000 in
theorem keys_F {m F : Nat} {l : List DepN} (hok : Okl m l) (hF : F = 2 ^ m) (v : Value) (w : World) (hv : Deps w v (castD l)) :
    Calls Try.prog 39 #[.int .i64 m, v] w fun e w' => ∃ v', e = .returned (.tuple #[v', .int .i64 0]) ∧ Ints w' v' (castN (keysTo l (F - 1) F)) ∧ Below w.heap.size w w' := by
  have hgood : ValidP m (castD l) [] := validP_nat hok.h1 hok.h8 hok.h12 hok.hl (t := []) (by simp)
  have H := Lib.hid (valid_yes hv (ints_nil w) hgood)
  obtain ⟨p1, p2⟩ := hok.pow
  rw [← hF] at p1 p2
  have HF := Lib.hid hF
  clear hF
  have hlt := hok.lt
  have Hv := Lib.hid hv
  obtain ⟨a, b, off, cap, hva, -⟩ := Deps.get hv
  subst hva
  clear hv hgood
  have hm8 := hok.h8
  go_enter Try.func39, Try.ntmps39
  go_wp2_with fail
  refine H.out.mono ?_
  rintro e w1 ⟨rfl, hb1⟩
  have Hb1 := Lib.hid hb1
  clear hb1 H
  go_wp2_with fail
  refine (closer_any _ _ _ _).mono ?_
  rintro e w2 ⟨rfl, hw2⟩
  have hbox := cell_new w1 #[.slice a (castD l).length cap] 28 0
  have hb2 := below_alloc w1 (.cells #[.slice a (castD l).length cap] 28)
  rw [hw2] at hbox hb2
  have hsz : w1.heap.size < w2.heap.size := by rw [← hw2]; simp
  have Hbox := Lib.hid hbox
  have Hb2 := Lib.hid (Below.tr Hb1.out hb2)
  have Hsz := Lib.hid hsz
  clear hw2 hbox hb2 hsz
  go_wp2_with fail
  go_loopw [7, 8] (fun o i wr => ∃ k : Nat, i = .int .i64 k ∧ k ≤ F ∧ Below w2.heap.size w2 wr ∧ KeysRow l F w2.heap.size wr o k) (fun _ i _ => F - (intOf i).toNat)
  case atStart => exact ⟨0, rfl, Nat.zero_le _, Below.refl _ _, World.ownsRow_nil _ _ _ _⟩
  case round =>
    obtain ⟨k, rfl, hk, hb, hown⟩ := hrel
    have Hown := Lib.hid hown
    have Hk := Lib.hid hk
    have Hb := Lib.hid hb
    clear hown hk hb
    go_wp2_with fail
    refine (full_F HF.out hm8 _).mono ?_
    rintro e w3 ⟨rfl, rfl⟩
    have k1 := Hk.out
    by_cases hlt' : k < F
    · have hks : k < 256 := by omega
      have q1 := cl_lt l k
      have q2 : ((k : Int) ≤ ((F - 1 : Nat) : Int)) := by omega
      go_wp2_with fail
      refine (closer1_any l hlt k _ hks _ _ (Below.keep Hb.out Hbox.out) (Deps.keep Hv.out (Below.tr Hb2.out Hb.out))).mono ?_
      rintro e w3 ⟨rfl, hb3⟩
      have Hb3 := Lib.hid hb3
      clear hb3
      go_wp2_with fail
      refine (full_F HF.out hm8 _).mono ?_
      rintro e w4 ⟨rfl, rfl⟩
      by_cases hc1 : cl l k = F - 1
      · have hc2 : (((cl l k : Nat) : Int) == ((F - 1 : Nat) : Int)) = true := by rw [hc1]; simp
        have Hc1 := Lib.hid hc1
        have Hown3 := Lib.hid (Hown.out.keep Hb3.out)
        have hlen := keysTo_length l (F - 1) k
        clear hc1
        go_wp2_with fail
        refine (containsOne_any k _ hks (fun p hp => by have := keysTo_lt l (F - 1) k p hp; omega) _ _ Hown3.out.ints).mono ?_
        rintro e w4 ⟨rfl, rfl⟩
        by_cases hS : HasSub k (keysTo l (F - 1) k)
        · have R := Hown3.out.miss (fun h => h.2 hS)
          go_wp2_with fail
          go_roundw
          case rel => exact ⟨k + 1, by go_num, by omega, Below.tr Hb.out Hb3.out, R⟩
          case measure => simp [intOf]; omega
        · have HS := Lib.hid hS
          go_wp2_with (at_builtin; refine append_own rfl (.tmp 33) (.tmp 35) 56 rfl elem56 rfl (World.ownsRow.alloc Hown3.out _) [.int .i64 k] rfl rfl ?c1 ?c2 ?c3 ?c4 ?_)
          case c1 => intro j u hj; go_simp
          case c2 => intro u hu; simp at hu; subst hu; rfl
          case c3 => omega
          case c4 => simp; have := Hb.out.size; have := Hb3.out.size; omega
          intro v' w' h1 h2 _
          have R := KeysRow.hit Hc1.out HS.out h1
          have hb' : Below w2.heap.size w2 w' := (Below.tr (Below.tr Hb.out Hb3.out) (below_alloc _ _)).trans h2
          clear h1 h2
          go_wp2_with fail
          go_roundw
          case rel => exact ⟨k + 1, by go_num, by omega, hb', R⟩
          case measure => simp [intOf]; omega
      · have hc2 : (((cl l k : Nat) : Int) == ((F - 1 : Nat) : Int)) = false := by simp; omega
        have R := (Hown.out.keep Hb3.out).miss (fun h => hc1 h.1)
        have HR := Lib.hid R
        clear R hc1
        go_wp2_with fail
        go_roundw
        case rel => exact ⟨k + 1, by go_num, by omega, Below.tr Hb.out Hb3.out, HR.out⟩
        case measure => simp [intOf]; omega
    · obtain rfl : k = F := by omega
      have q2 : ¬ ((k : Int) ≤ ((k - 1 : Nat) : Int)) := by omega
      go_wp2_with fail
      go_ret2
      exact ⟨_, rfl, Hown.out.ints, Below.tr Hb2.out Hb.out⟩
end Go.Proofs.Ytnidalbfmicoiaa

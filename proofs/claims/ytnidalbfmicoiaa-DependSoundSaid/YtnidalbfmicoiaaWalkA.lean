/- Contracts of depend's small functions and of the closure that closer makes. -/
import Derived.Test.YtnidalbfmicoiaaSets
import Derived.Test.YtnidalbfmicoiaaChecked
import Derived.Outline
import Derived.Deep.QuietTactic
import Derived.BigQuiet
namespace Go.Proofs.Ytnidalbfmicoiaa
open Go.RowKit

def castD (l : List DepN) : List (Int × Int) := l.map fun d => ((d.1 : Int), (d.2 : Int))

theorem nat_eq0 (n : Nat) : ((n : Int) == 0) = decide (n = 0) := by rw [Bool.eq_iff_iff]; simp
theorem contains_any (x y : Nat) (hx : x < 2 ^ 63) (hy : y < 2 ^ 63) (w : World) :
    Calls Try.prog 75 #[.int .i64 x, .int .i64 y] w fun e w' => e = .returned (.bool (decide (Sub y x))) ∧ w = w' := by
  have hb := bits_andNot_nat y x hy hx
  go_enter Try.func75, Try.ntmps75
  go_wp2
  go_ret
  refine ⟨?_, rfl⟩
  exact congrArg (fun b => Ending.returned (.bool b)) (nat_eq0 _)

theorem test_sub (x c : Nat) (hx : x < 2 ^ 63) (hc : c < 2 ^ 63) : (bits .andNot .i64 (x : Int) (c : Int) == 0) = decide (Sub x c) := by
  rw [bits_andNot_nat x c hx hc]; exact nat_eq0 _
theorem pow_cast (n : Nat) (hn : n ≤ 8) : (2 : Int) ^ n = ((2 ^ n : Nat) : Int) ∧ (2 : Nat) ^ n ≤ 256 ∧ 1 ≤ (2 : Nat) ^ n :=
  ⟨by simp, by have := Nat.pow_le_pow_right (n := 2) (by decide) hn; simpa using this, Nat.two_pow_pos n⟩
theorem full_any (n : Nat) (hn : n ≤ 8) (w : World) :
    Calls Try.prog 79 #[.int .i64 n] w fun e w' => e = .returned (.int .i64 ((2 ^ n - 1 : Nat) : Int)) ∧ w = w' := by
  obtain ⟨p1, p2, p3⟩ := pow_cast n hn
  go_enter Try.func79, Try.ntmps79
  generalize (2 : Nat) ^ n = m at *
  go_wp2
  go_ret
  refine ⟨?_, rfl⟩
  exact congrArg (fun b => Ending.returned (.int .i64 b)) (by omega)

def isTrue : Value → Bool | .bool b => b | _ => false
/-- the loop of the closure: what holds of the set at every time -/
def Grows (l : List DepN) (s c : Nat) : Prop := Sub s c ∧ c < 256 ∧ ∀ t, Sub s t → Clsd l t → Sub c t
theorem Grows.start {l : List DepN} {s : Nat} (h : s < 256) : Grows l s s := ⟨Sub.refl s, h, fun _ h _ => h⟩
theorem Grows.step {l : List DepN} {s c : Nat} {d : DepN} (h : Grows l s c) (hd : d ∈ l) (hl : AllLt l 256) (h1 : Sub d.1 c) : Grows l s (c ||| d.2) :=
  ⟨h.1.trans (sub_or_left _ _), Nat.or_lt_two_pow (n := 8) h.2.1 (hl d hd).2, fun t h2 h3 => or_sub (h.2.2 t h2 h3) (h3 d hd (h1.trans (h.2.2 t h2 h3)))⟩
theorem Grows.done {l : List DepN} {s c : Nat} (h : Grows l s c) (hl : AllLt l 256) (hs : s < 256) (hc : Clsd l c) : c = cl l s :=
  cl_unique hl h.2.1 h.1 hc h.2.2 hs
/-- the first k dependencies leave c as it is -/
def ClsdTo (l : List DepN) (k c : Nat) : Prop := ∀ i (h : i < l.length), i < k → Sub l[i].1 c → Sub l[i].2 c
theorem ClsdTo.all {l : List DepN} {c : Nat} (h : ClsdTo l l.length c) : Clsd l c := fun d hd h1 => by
  obtain ⟨i, hi, rfl⟩ := List.getElem_of_mem hd
  exact h i hi hi h1
/-- the inner loop: c0 at its start, c now; ch: changed -/
def Inner (l : List DepN) (s c0 c k : Nat) (ch : Bool) : Prop := Grows l s c ∧ (if ch then c0 < c else c = c0 ∧ ClsdTo l k c)

theorem Inner.changed {l : List DepN} {s c0 c k k' : Nat} {ch : Bool} {d : DepN} (h : Inner l s c0 c k' ch) (hd : d ∈ l) (hl : AllLt l 256) (h1 : Sub d.1 c) (h2 : ¬ Sub d.2 c) : Inner l s c0 (c ||| d.2) k true := by
  refine ⟨h.1.step hd hl h1, ?_⟩
  have := or_gt h2
  have h3 := h.2
  cases ch
  · simp at h3 ⊢; omega
  · simp at h3 ⊢; omega
theorem Inner.kept {l : List DepN} {s c0 c k : Nat} {ch : Bool} (h : Inner l s c0 c k ch) (hk : k < l.length) (h1 : Sub l[k].1 c → Sub l[k].2 c) : Inner l s c0 c (k + 1) ch := by
  refine ⟨h.1, ?_⟩
  have h3 := h.2
  cases ch
  · simp only [Bool.false_eq_true, if_false] at h3 ⊢
    refine ⟨h3.1, fun i hi hik => ?_⟩
    by_cases e : i = k
    · subst e; exact h1
    · exact h3.2 i hi (by omega)
  · exact h3
theorem Inner.ended {l : List DepN} {s c0 c : Nat} {ch : Bool} (h : Inner l s c0 c l.length ch) : (ch = false → Clsd l c) ∧ (ch = false → c = c0) ∧ (ch = true → c0 < c) ∧ c < 256 := by
  have h3 := h.2
  refine ⟨fun e => ?_, fun e => ?_, fun e => ?_, h.1.2.1⟩ <;> subst e <;> simp only [Bool.false_eq_true, if_false, if_true] at h3
  · exact h3.2.all
  · exact h3.1
  · exact h3

theorem closer1_any (l : List DepN) (hl : AllLt l 256) (s pb : Nat) (hs : s < 256) (v : Value) (w : World)
    (hp : w.cell? ⟨pb, 0, none⟩ = some v) (hv : Deps w v (castD l)) :
    Calls Try.prog 94 #[.int .i64 s, .pointer (some ⟨pb, 0, none⟩)] w fun e w' => e = .returned (.int .i64 (cl l s : Nat)) ∧ Below w.heap.size w w' := by
  have hv0 := hv
  obtain ⟨a, b, off, cap, rfl, hle, ha, hc⟩ := Deps.get hv
  have e0 : (castD l).length = l.length := by simp [castD]
  rw [e0] at hle ha
  have hc' : ∀ i (h : i < l.length), w.cell? ⟨b, off + i * 2, none⟩ = some (.int .i64 ((l[i].1 : Nat) : Int)) ∧ w.cell? ⟨b, off + i * 2 + 1, none⟩ = some (.int .i64 ((l[i].2 : Nat) : Int)) := by
    intro i hi
    have := hc i (by omega)
    simpa [castD] using this
  have hix := run_ix (P := Try.prog) (t := 28) (a := a) (len := l.length) (cap := cap) (b := b) (off := off) (s := 2) Try.underlying28 (by intro w; kernel_rfl) ha
  rw [e0] at hp
  clear ha hc hv hv0 e0
  go_enter Try.func94, Try.ntmps94
  go_wp2
  go_loopw [0, 4] (fun x c wr => ∃ n : Nat, ∃ c' : Bool, x = .int .i64 n ∧ c = .bool c' ∧ Below w.heap.size w wr ∧ Grows l s n ∧ (c' = false → Clsd l n)) (fun x c _ => 2 * (256 - (intOf x).toNat) + (isTrue c).toNat)
  case atStart => exact ⟨s, true, rfl, rfl, Below.refl _ _, Grows.start hs, fun h => by cases h⟩
  case round =>
    obtain ⟨c0, ch0, rfl, rfl, hb, hg, hcl⟩ := hrel
    have hp' : wr.cell? ⟨pb, 0, none⟩ = some (.slice a l.length cap) := Below.keep hb hp
    have hc2 : ∀ i (h : i < l.length), wr.cell? ⟨b, off + i * 2, none⟩ = some (.int .i64 ((l[i].1 : Nat) : Int)) ∧ wr.cell? ⟨b, off + i * 2 + 1, none⟩ = some (.int .i64 ((l[i].2 : Nat) : Int)) :=
      fun i h => ⟨Below.keep hb (hc' i h).1, Below.keep hb (hc' i h).2⟩
    have hsz := hb.size
    cases ch0
    · have Hcl := Lib.hid (hcl rfl)
      have Hg := Lib.hid hg
      clear hcl hg hc2 hc'
      go_wp2
      go_ret
      exact ⟨congrArg (fun c : Nat => Ending.returned (.int .i64 (c : Int))) (Hg.out.done hl hs Hcl.out), hb⟩
    · have Hc2 := Lib.hid hc2
      have Hg := Lib.hid hg
      clear hcl hg hc2 hc'
      go_wp2
      obtain ⟨wo, rfl⟩ : ∃ wo : World, wo = wr := ⟨_, rfl⟩
      go_loopw [0, 4, 10] (fun x c i wr => ∃ n : Nat, ∃ c' : Bool, ∃ k : Nat, x = .int .i64 n ∧ c = .bool c' ∧ i = .int .i64 k ∧ k ≤ l.length ∧ Below wo.heap.size wo wr ∧ Inner l s c0 n k c') (fun x c i _ => l.length - (intOf i).toNat)
      case atStart => exact ⟨c0, false, 0, rfl, rfl, rfl, Nat.zero_le _, Below.refl _ _, Hg.out, rfl, fun i h h' => by omega⟩
      case round =>
        obtain ⟨c, ch, k, rfl, rfl, rfl, hk, hb', hin⟩ := hrel
        have Hin := Lib.hid hin
        clear hin
        by_cases hlt : k < l.length
        · have hc1 := Below.keep hb' (Hc2.out k hlt).1
          have hc2 := Below.keep hb' (Hc2.out k hlt).2
          have hlk := hl _ (List.getElem_mem hlt)
          have hg' := Hin.out.1
          have hcm := hg'.2.1
          have HG := Lib.hid hg'
          clear hg'
          have t1 := test_sub l[k].1 c (by omega) (by omega)
          have t2 := test_sub l[k].2 c (by omega) (by omega)
          have t3 := bits_or_nat c l[k].2 (by omega) (by omega)
          have hkm : l[k] ∈ l := List.getElem_mem hlt
          go_wp2
          · have h1 : Sub l[k].1 c := by assumption
            have h2 : ¬ Sub l[k].2 c := by have h : (!decide (Sub l[k].2 c)) = true := by assumption
                                           simpa using h
            have R := Hin.out.changed hkm hl h1 h2 (k := k + 1)
            go_roundw
            case rel => exact ⟨_, true, k + 1, rfl, rfl, by go_num, by omega, hb'.alloc hb'.size _, R⟩
            case measure => simp [intOf]; omega
          · have h2 : Sub l[k].2 c := by have h : (!decide (Sub l[k].2 c)) = false := by assumption
                                         simpa using h
            have R := Hin.out.kept hlt (fun _ => h2)
            go_roundw
            case rel => exact ⟨_, ch, k + 1, rfl, rfl, by go_num, by omega, hb'.alloc hb'.size _, R⟩
            case measure => simp [intOf]; omega
          · have h1 : ¬ Sub l[k].1 c := by assumption
            have R := Hin.out.kept hlt (fun h => absurd h h1)
            go_roundw
            case rel => exact ⟨_, ch, k + 1, rfl, rfl, by go_num, by omega, hb'.alloc hb'.size _, R⟩
            case measure => simp [intOf]; omega
        · obtain rfl : k = l.length := by omega
          have R := Hin.out.ended
          go_wp2
          go_roundw
          case rel => exact ⟨c, ch, rfl, rfl, hb.trans (hb'.mono hb.size), Hin.out.1, R.1⟩
          case measure => have := R.2; simp [intOf, isTrue]; cases ch <;> simp_all <;> omega
#print axioms closer1_any
end Go.Proofs.Ytnidalbfmicoiaa

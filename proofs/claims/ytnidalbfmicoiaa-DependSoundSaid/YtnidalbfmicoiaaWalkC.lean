/- Contracts of depend.valid, closer, Closure. -/
import Derived.Test.YtnidalbfmicoiaaWalkA
namespace Go.Proofs.Ytnidalbfmicoiaa
open Go.RowKit

/-- s is a set of n attributes -/
def InSet (n s : Int) : Prop := 0 ≤ s ∧ s < 2 ^ n.toNat
instance (n s : Int) : Decidable (InSet n s) := inferInstanceAs (Decidable (_ ∧ _))
def ValidL (n : Int) (l : List (Int × Int)) : Prop := ∀ d ∈ l, InSet n d.1 ∧ InSet n d.2
def ValidS (n : Int) (l : List Int) : Prop := ∀ s ∈ l, InSet n s
instance (n : Int) (l : List (Int × Int)) : Decidable (ValidL n l) := inferInstanceAs (Decidable (∀ d ∈ l, _))
instance (n : Int) (l : List Int) : Decidable (ValidS n l) := inferInstanceAs (Decidable (∀ d ∈ l, _))
def ValidP (n : Int) (l : List (Int × Int)) (sets : List Int) : Prop := (1 ≤ n ∧ n ≤ 8 ∧ l.length ≤ 12) ∧ ValidL n l ∧ ValidS n sets
instance (n : Int) (l : List (Int × Int)) (sets : List Int) : Decidable (ValidP n l sets) := inferInstanceAs (Decidable (_ ∧ _))

theorem inSet_nat (n : Nat) (s : Int) : InSet n s ↔ 0 ≤ s ∧ s < ((2 ^ n : Nat) : Int) := by
  unfold InSet; rw [Int.toNat_natCast]; simp
theorem isSet_any (n : Nat) (s : Int) (pb : Nat) (hn : n ≤ 8) (w : World) (hp : w.cell? ⟨pb, 0, none⟩ = some (.int .i64 (n : Int))) :
    Calls Try.prog 93 #[.int .i64 s, .pointer (some ⟨pb, 0, none⟩)] w fun e w' => e = .returned (.bool (decide (InSet n s))) ∧ w = w' := by
  obtain ⟨p1, p2, p3⟩ := pow_cast n hn
  by_cases h0 : 0 ≤ s
  · by_cases h1 : s ≤ ((2 ^ n - 1 : Nat) : Int)
    · have hfin : decide (InSet n s) = true := decide_eq_true ((inSet_nat n s).2 ⟨h0, by omega⟩)
      have Hfin := Lib.hid hfin
      clear hfin p1 p2 p3
      go_enter Try.func93, Try.ntmps93
      go_wp2_with (go_at_call 79; refine (full_any n hn _).mono ?_; rintro e w' ⟨rfl, rfl⟩)
      go_ret
      exact ⟨congrArg (fun b => Ending.returned (.bool b)) Hfin.out.symm, rfl⟩
    · have hfin : decide (InSet n s) = false := decide_eq_false (fun h => by have := ((inSet_nat n s).1 h).2; omega)
      have Hfin := Lib.hid hfin
      have h2 : decide (s ≤ ((2 ^ n - 1 : Nat) : Int)) = false := by simp only [decide_eq_false_iff_not]; exact h1
      clear hfin p1 p2 p3 h1
      go_enter Try.func93, Try.ntmps93
      go_wp2_with (go_at_call 79; refine (full_any n hn _).mono ?_; rintro e w' ⟨rfl, rfl⟩)
      go_ret
      exact ⟨congrArg (fun b => Ending.returned (.bool b)) Hfin.out.symm, rfl⟩
  · have hfin : decide (InSet n s) = false := decide_eq_false (fun h => h0 h.1)
    have Hfin := Lib.hid hfin
    clear hfin p1 p2 p3
    go_enter Try.func93, Try.ntmps93
    go_wp2
    go_ret
    exact ⟨congrArg (fun b => Ending.returned (.bool b)) Hfin.out.symm, rfl⟩

theorem closer_any (a : Option Addr) (n c : Nat) (w : World) :
    Calls Try.prog 71 #[.slice a n c] w fun e w' => e = .returned (.func (.func 94) #[] #[.pointer (some ⟨w.heap.size, 0, none⟩)]) ∧ w.alloc (.cells #[.slice a n c] 28) = w' := by
  go_enter Try.func71, Try.ntmps71
  go_wp2
  go_ret
  exact ⟨rfl, rfl⟩

/-- the first k elements have p -/
def AllTo {α : Type} (p : α → Prop) (l : List α) (k : Nat) : Prop := ∀ i (h : i < l.length), i < k → p l[i]
theorem AllTo.all {α : Type} {p : α → Prop} {l : List α} (h : AllTo p l l.length) : ∀ x ∈ l, p x := fun x hx => by
  obtain ⟨i, hi, rfl⟩ := List.getElem_of_mem hx
  exact h i hi hi
theorem AllTo.step {α : Type} {p : α → Prop} {l : List α} {k : Nat} (h : AllTo p l k) (hk : k < l.length) (h1 : p l[k]) : AllTo p l (k + 1) := fun i hi hik => by
  by_cases e : i = k
  · subst e; exact h1
  · exact h i hi (by omega)
theorem valid_any (n : Int) (l : List (Int × Int)) (sets : List Int) (v u : Value) (w : World) (hv : Deps w v l) (hu : Ints w u sets) :
    Calls Try.prog 70 #[.int .i64 n, v, u] w fun e w' => e = .returned (.bool (decide (ValidP n l sets))) ∧ Below w.heap.size w w' := by
  obtain ⟨a, b, off, cap, rfl, hle, ha, hc⟩ := Deps.get hv
  obtain ⟨a', b', off', cap', rfl, hle', ha', hc'⟩ := Ints.get hu
  have hix := run_ix (P := Try.prog) (t := 28) (a := a) (len := l.length) (cap := cap) (b := b) (off := off) (s := 2) Try.underlying28 (by intro w; kernel_rfl) ha
  have hix' := run_ix (P := Try.prog) (t := 56) (a := a') (len := sets.length) (cap := cap') (b := b') (off := off') (s := 1) Try.underlying56 (by intro w; kernel_rfl) ha'
  simp only [Nat.mul_one] at hix'
  clear ha ha' hv hu
  by_cases hn : 1 ≤ n ∧ n ≤ 8 ∧ l.length ≤ 12
  · obtain ⟨h1, h2, h3⟩ := hn
    obtain ⟨m, rfl⟩ := Int.eq_ofNat_of_zero_le (show 0 ≤ n by omega)
    have hm8 : m ≤ 8 := by omega
    go_enter Try.func70, Try.ntmps70
    go_wp2
    have hb0 : Below w.heap.size w (w.alloc (Obj.cells #[Value.int IntKind.i64 ↑m] 3)) := (Below.refl _ _).alloc (Nat.le_refl _) _
    have hbox : (w.alloc (Obj.cells #[Value.int IntKind.i64 ↑m] 3)).cell? ⟨w.heap.size, 0, none⟩ = some (.int .i64 (m : Int)) := by simp [go_sem]
    have hs0 : (w.alloc (Obj.cells #[Value.int IntKind.i64 ↑m] 3)).heap.size = w.heap.size + 1 := by simp
    generalize w.alloc (Obj.cells #[Value.int IntKind.i64 ↑m] 3) = w0 at *
    have Hb0 := Lib.hid hb0
    have Hbox := Lib.hid hbox
    have Hs0 := Lib.hid hs0
    have Hc := Lib.hid hc
    have Hc' := Lib.hid hc'
    clear hb0 hbox hs0 hc hc'
    go_loopw [26] (fun i wr => ∃ k : Nat, i = .int .i64 k ∧ k ≤ l.length ∧ Below w0.heap.size w0 wr ∧ AllTo (fun d : Int × Int => InSet m d.1 ∧ InSet m d.2) l k) (fun i _ => l.length - (intOf i).toNat)
    case atStart => exact ⟨0, rfl, Nat.zero_le _, Below.refl _ _, fun i _ h => by omega⟩
    case round =>
      obtain ⟨k, rfl, hk, hb, hin⟩ := hrel
      have Hin := Lib.hid hin
      clear hin
      have hbox := Below.keep hb Hbox.out
      by_cases hlt : k < l.length
      · have hc1 := Below.keep hb (Below.keep Hb0.out (Hc.out k hlt).1)
        have hc2 := Below.keep hb (Below.keep Hb0.out (Hc.out k hlt).2)
        go_wp2_with (go_at_call 93; refine (isSet_any m _ _ hm8 _ (by exact Below.keep ((Below.refl _ _).alloc (Nat.le_refl _) _) hbox)).mono ?_; rintro e w' ⟨rfl, rfl⟩)
        · have h : (!decide (InSet (m : Int) l[k].2)) = true := by assumption
          have R : decide (ValidP m l sets) = false := decide_eq_false fun hv => by have := (hv.2.1 _ (List.getElem_mem hlt)).2; simp [this] at h
          go_ret
          exact ⟨congrArg (fun b => Ending.returned (.bool b)) R.symm, (Hb0.out.trans (hb.mono Hb0.out.size)).alloc (by have := hb.size; have := Hs0.out; omega) _⟩
        · have h : (!decide (InSet (m : Int) l[k].2)) = false := by assumption
          have h1 : InSet (m : Int) l[k].1 := by assumption
          have R := Hin.out.step hlt ⟨h1, by simpa using h⟩
          go_roundw
          case rel => exact ⟨k + 1, by go_num, by omega, hb.alloc hb.size _, R⟩
          case measure => simp [intOf]; omega
        · have h1 : ¬ InSet (m : Int) l[k].1 := by assumption
          have R : decide (ValidP m l sets) = false := decide_eq_false fun hv => h1 (hv.2.1 _ (List.getElem_mem hlt)).1
          go_ret
          exact ⟨congrArg (fun b => Ending.returned (.bool b)) R.symm, (Hb0.out.trans (hb.mono Hb0.out.size)).alloc (by have := hb.size; have := Hs0.out; omega) _⟩
      · obtain rfl : k = l.length := by omega
        have HV := Lib.hid Hin.out.all
        have Hb := Lib.hid hb
        clear Hin
        go_wp2
        obtain ⟨wo, rfl⟩ : ∃ wo : World, wo = wr := ⟨_, rfl⟩
        clear hb
        go_loopw [45] (fun i wr => ∃ k : Nat, i = .int .i64 k ∧ k ≤ sets.length ∧ Below wo.heap.size wo wr ∧ AllTo (fun s : Int => InSet m s) sets k) (fun i _ => sets.length - (intOf i).toNat)
        case atStart => exact ⟨0, rfl, Nat.zero_le _, Below.refl _ _, fun i _ h => by omega⟩
        case round =>
          obtain ⟨k, rfl, hk, hb', hin⟩ := hrel
          have Hin := Lib.hid hin
          clear hin hbox
          have hbox := Below.keep hb' (Below.keep Hb.out Hbox.out)
          by_cases hlt' : k < sets.length
          · have hc1 := Below.keep hb' (Below.keep Hb.out (Below.keep Hb0.out (Hc'.out k hlt')))
            go_wp2_with (go_at_call 93; refine (isSet_any m _ _ hm8 _ hbox).mono ?_; rintro e w' ⟨rfl, rfl⟩)
            · have h : (!decide (InSet (m : Int) sets[k])) = true := by assumption
              have R : decide (ValidP m l sets) = false := decide_eq_false fun hv => by have := (hv.2.2 _ (List.getElem_mem hlt')); simp [this] at h
              go_ret
              exact ⟨congrArg (fun b => Ending.returned (.bool b)) R.symm, Hb0.out.trans ((Hb.out.trans (hb'.mono Hb.out.size)).mono Hb0.out.size)⟩
            · have h : (!decide (InSet (m : Int) sets[k])) = false := by assumption
              have R := Hin.out.step hlt' (by simpa using h)
              go_roundw
              case rel => exact ⟨k + 1, by go_num, by omega, hb', R⟩
              case measure => simp [intOf]; omega
          · obtain rfl : k = sets.length := by omega
            have R : decide (ValidP m l sets) = true := decide_eq_true ⟨⟨h1, h2, h3⟩, HV.out, Hin.out.all⟩
            go_wp2
            go_ret
            exact ⟨congrArg (fun b => Ending.returned (.bool b)) R.symm, Hb0.out.trans ((Hb.out.trans (hb'.mono Hb.out.size)).mono Hb0.out.size)⟩
  · have R : decide (ValidP n l sets) = false := decide_eq_false fun hv => hn hv.1
    have HR := Lib.hid R
    clear R hc hc'
    have q : n < 1 ∨ (1 ≤ n ∧ 8 < n) ∨ (1 ≤ n ∧ n ≤ 8 ∧ (12 : Int) < (l.length : Int)) := by omega
    clear hn
    rcases q with q | ⟨q1, q⟩ | ⟨q1, q2, q⟩
    all_goals
      go_enter Try.func70, Try.ntmps70
      go_wp2
      go_ret
      exact ⟨congrArg (fun b => Ending.returned (.bool b)) HR.out.symm, (Below.refl _ _).alloc (Nat.le_refl _) _⟩
#print axioms valid_any

/-- valid arguments as natural numbers -/
theorem ValidP.nat {n : Int} {l : List (Int × Int)} {sets : List Int} (h : ValidP n l sets) : ∃ (m : Nat) (l' : List DepN) (t : List Nat), n = m ∧ 1 ≤ m ∧ m ≤ 8 ∧ l = castD l' ∧ l'.length ≤ 12 ∧ AllLt l' (2 ^ m) ∧
    sets = t.map (fun x : Nat => (x : Int)) ∧ ∀ x ∈ t, x < 2 ^ m := by
  obtain ⟨⟨h1, h2, h3⟩, h4, h5⟩ := h
  obtain ⟨m, rfl⟩ := Int.eq_ofNat_of_zero_le (show 0 ≤ n by omega)
  refine ⟨m, l.map fun d => (d.1.toNat, d.2.toNat), sets.map Int.toNat, rfl, by omega, by omega, ?_, by simpa using h3, ?_, ?_, ?_⟩
  · simp only [castD, List.map_map]
    symm
    rw [List.map_eq_iff]
    intro i
    cases hi : l[i]? with
    | none => simp
    | some d =>
      have hd := h4 d (List.mem_of_getElem? hi)
      have e1 := hd.1.1
      have e2 := hd.2.1
      simp only [Option.map_some, Function.comp]
      exact congrArg some (Prod.ext (Int.toNat_of_nonneg e1).symm (Int.toNat_of_nonneg e2).symm)
  · intro d hd
    obtain ⟨e, he, rfl⟩ := List.mem_map.1 hd
    obtain ⟨a1, a2⟩ := h4 e he
    rw [inSet_nat] at a1 a2
    exact ⟨by omega, by omega⟩
  · rw [List.map_map]
    symm
    rw [List.map_eq_iff]
    intro i
    cases hi : sets[i]? with
    | none => simp
    | some d =>
      have hd := h5 d (List.mem_of_getElem? hi)
      simp only [Option.map_some, Function.comp]
      exact congrArg some (Int.toNat_of_nonneg hd.1).symm
  · intro x hx
    obtain ⟨e, he, rfl⟩ := List.mem_map.1 hx
    have a1 := h5 e he
    rw [inSet_nat] at a1
    omega
end Go.Proofs.Ytnidalbfmicoiaa

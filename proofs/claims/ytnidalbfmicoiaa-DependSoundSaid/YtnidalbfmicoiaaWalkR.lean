/- Contracts of the reference's Set, Pair, Valid, Closure, Follows. -/
import Derived.Test.YtnidalbfmicoiaaWalkF
namespace Go.Proofs.Ytnidalbfmicoiaa
open Go.RowKit

/-- the dependencies that c answers already -/
def cnt (l : List DepN) (c : Nat) : Nat := l.countP fun d => decide (Sub d.1 c) && decide (Sub d.2 c)
theorem countP_lt {α : Type} {p q : α → Bool} : ∀ {l : List α}, (∀ x ∈ l, p x = true → q x = true) → (∃ x ∈ l, q x = true ∧ p x = false) → l.countP p < l.countP q
  | [], _, h => by obtain ⟨x, hx, _⟩ := h; simp at hx
  | y :: l, h, ⟨x, hx, hq, hp⟩ => by
    have hm : l.countP p ≤ l.countP q := List.countP_mono_left fun x hx => h x (List.mem_cons_of_mem _ hx)
    rcases List.mem_cons.1 hx with rfl | hx
    · rw [List.countP_cons_of_pos hq, List.countP_cons_of_neg (by simp [hp])]; omega
    · have hr := countP_lt (fun x hx => h x (List.mem_cons_of_mem _ hx)) ⟨x, hx, hq, hp⟩
      have hy := h y (List.mem_cons_self ..)
      rw [List.countP_cons, List.countP_cons]
      cases h1 : p y
      · simp; omega
      · simp [hy h1]; omega
/-- after k passes -/
def Pass (l : List DepN) (k c : Nat) : Prop := Clsd l c ∨ k ≤ cnt l c
theorem Pass.done {l : List DepN} {c : Nat} (h : Pass l l.length c) : Clsd l c := by
  rcases h with h | h
  · exact h
  · have h1 : l.countP (fun d => decide (Sub d.1 c) && decide (Sub d.2 c)) = l.length := Nat.le_antisymm List.countP_le_length h
    rw [List.countP_eq_length] at h1
    intro d hd _
    have := h1 d hd
    simp at this
    exact this.2
/-- inside a pass -/
def InPass (l : List DepN) (s c0 c k : Nat) : Prop := Grows l s c ∧ Sub c0 c ∧ (Clsd l c0 → c = c0) ∧ ∀ i (h : i < l.length), i < k → Sub l[i].1 c0 → Sub l[i].2 c
theorem InPass.yes {l : List DepN} {s c0 c k : Nat} (h : InPass l s c0 c k) (hk : k < l.length) (hl : AllLt l 256) (h1 : Sub l[k].1 c) : InPass l s c0 (c ||| l[k].2) (k + 1) := by
  refine ⟨h.1.step (List.getElem_mem hk) hl h1, h.2.1.trans (sub_or_left _ _), fun hc => ?_, fun i hi hik h2 => ?_⟩
  · have := h.2.2.1 hc
    subst this
    exact (hc _ (List.getElem_mem hk) h1).or_eq
  · by_cases e : i = k
    · subst e; exact sub_or_right _ _
    · exact (h.2.2.2 i hi (by omega) h2).trans (sub_or_left _ _)
theorem InPass.no {l : List DepN} {s c0 c k : Nat} (h : InPass l s c0 c k) (h1 : ∀ hk : k < l.length, ¬ Sub l[k].1 c) : InPass l s c0 c (k + 1) := by
  refine ⟨h.1, h.2.1, h.2.2.1, fun i hi hik h2 => ?_⟩
  by_cases e : i = k
  · subst e; exact absurd (h2.trans h.2.1) (h1 hi)
  · exact h.2.2.2 i hi (by omega) h2
theorem InPass.ended {l : List DepN} {s c0 c k : Nat} (h : InPass l s c0 c l.length) (hp : Pass l k c0) : Pass l (k + 1) c := by
  by_cases hc : Clsd l c0
  · have := h.2.2.1 hc
    subst this
    exact .inl hc
  · rcases hp with hp | hp
    · exact absurd hp hc
    · right
      have : cnt l c0 < cnt l c := by
        refine countP_lt (fun x _ hx => ?_) ?_
        · simp at hx ⊢
          exact ⟨hx.1.trans h.2.1, hx.2.trans h.2.1⟩
        · have : ∃ d ∈ l, Sub d.1 c0 ∧ ¬ Sub d.2 c0 := by
            by_cases hq : ∃ d ∈ l, Sub d.1 c0 ∧ ¬ Sub d.2 c0
            · exact hq
            · exact absurd (fun d hd h1 => Decidable.byContradiction fun h2 => hq ⟨d, hd, h1, h2⟩) hc
          obtain ⟨d, hd, h1, h2⟩ := this
          obtain ⟨i, hi, rfl⟩ := List.getElem_of_mem hd
          refine ⟨_, hd, ?_, ?_⟩
          · simp; exact ⟨h1.trans h.2.1, h.2.2.2 i hi hi h1⟩
          · simp [h2]
      omega

theorem closureR_any (l : List DepN) (hl : AllLt l 256) (s : Nat) (hs : s < 256) (v : Value) (w : World) (hv : Deps w v (castD l)) :
    Calls Try.prog 29 #[v, .int .i64 s] w fun e w' => e = .returned (.int .i64 (cl l s : Nat)) ∧ Below w.heap.size w w' := by
  obtain ⟨a, b, off, cap, rfl, hle, ha, hc⟩ := Deps.get hv
  have e0 : (castD l).length = l.length := by simp [castD]
  have hc' : ∀ i (h : i < l.length), w.cell? ⟨b, off + i * 2, none⟩ = some (.int .i64 ((l[i].1 : Nat) : Int)) ∧ w.cell? ⟨b, off + i * 2 + 1, none⟩ = some (.int .i64 ((l[i].2 : Nat) : Int)) := by
    intro i hi
    have := hc i (by omega)
    simpa [castD] using this
  rw [e0] at hle ha ⊢
  have hix := run_ix (P := Try.prog) (t := 22) (a := a) (len := l.length) (cap := cap) (b := b) (off := off) (s := 2) Try.underlying22 (by intro w; kernel_rfl) ha
  have Hc := Lib.hid hc'
  clear ha hc hv e0 hc'
  go_enter Try.func29, Try.ntmps29
  go_wp2
  go_loopw [1, 9] (fun x i wr => ∃ n k : Nat, x = .int .i64 n ∧ i = .int .i64 k ∧ k ≤ l.length ∧ Below w.heap.size w wr ∧ Grows l s n ∧ Pass l k n) (fun _ i _ => l.length - (intOf i).toNat)
  case atStart => exact ⟨s, 0, rfl, rfl, Nat.zero_le _, Below.refl _ _, Grows.start hs, .inr (Nat.zero_le _)⟩
  case round =>
    obtain ⟨c0, p, rfl, rfl, hp, hb, hg, hps⟩ := hrel
    have Hps := Lib.hid hps
    have Hg := Lib.hid hg
    have Hb := Lib.hid hb
    clear hps hg hb
    by_cases hpl : p < l.length
    · go_wp2
      obtain ⟨wo, rfl⟩ : ∃ wo : World, wo = wr := ⟨_, rfl⟩
      go_loopw [1, 13] (fun x i wr => ∃ n k : Nat, x = .int .i64 n ∧ i = .int .i64 k ∧ k ≤ l.length ∧ Below w.heap.size w wr ∧ InPass l s c0 n k) (fun _ i _ => l.length - (intOf i).toNat)
      case atStart => exact ⟨c0, 0, rfl, rfl, Nat.zero_le _, Hb.out, Hg.out, Sub.refl _, fun _ => rfl, fun i h h' => by omega⟩
      case round =>
        obtain ⟨c, k, rfl, rfl, hk, hb', hin⟩ := hrel
        have Hin := Lib.hid hin
        clear hin
        by_cases hlt : k < l.length
        · have hc1 := Below.keep hb' (Hc.out k hlt).1
          have hc2 := Below.keep hb' (Hc.out k hlt).2
          have hlk := hl _ (List.getElem_mem hlt)
          have hg' := Hin.out.1
          have hcm := hg'.2.1
          have HG := Lib.hid hg'
          clear hg'
          have t1 := test_sub l[k].1 c (by omega) (by omega)
          have t3 := bits_or_nat c l[k].2 (by omega) (by omega)
          go_wp2
          · have h1 : Sub l[k].1 c := by assumption
            have R := Hin.out.yes hlt hl h1
            go_roundw
            case rel => exact ⟨_, k + 1, rfl, by go_num, by omega, hb'.alloc hb'.size _, R⟩
            case measure => simp [intOf]; omega
          · have h1 : ¬ Sub l[k].1 c := by assumption
            have R := Hin.out.no (fun _ => h1)
            go_roundw
            case rel => exact ⟨_, k + 1, rfl, by go_num, by omega, hb'.alloc hb'.size _, R⟩
            case measure => simp [intOf]; omega
        · obtain rfl : k = l.length := by omega
          have R := Hin.out.ended Hps.out
          have HG := Lib.hid Hin.out.1
          go_wp2
          go_roundw
          case rel => exact ⟨c, p + 1, rfl, by go_num, by omega, hb', HG.out, R⟩
          case measure => simp [intOf]; omega
    · obtain rfl : p = l.length := by omega
      have R := Hg.out.done hl hs Hps.out.done
      go_wp2
      go_ret
      exact ⟨congrArg (fun c : Nat => Ending.returned (.int .i64 (c : Int))) R, Hb.out⟩

theorem setR_any (n : Nat) (s : Int) (hn : n ≤ 8) (w : World) :
    Calls Try.prog 28 #[.int .i64 n, .int .i64 s] w fun e w' => e = .returned (.bool (decide (InSet n s))) ∧ w = w' := by
  obtain ⟨p1, p2, p3⟩ := pow_cast n hn
  have hi := inSet_nat n s
  generalize hm : (2 : Nat) ^ n = m at *
  have Hi := Lib.hid hi
  clear hi hm
  by_cases h0 : 0 ≤ s
  · go_enter Try.func28, Try.ntmps28
    go_wp2
    go_ret
    exact ⟨congrArg (fun b => Ending.returned (.bool b)) (by simp; rw [Hi.out]; omega), rfl⟩
  · have hfin : decide (InSet n s) = false := decide_eq_false (fun h => h0 h.1)
    have Hfin := Lib.hid hfin
    clear hfin
    go_enter Try.func28, Try.ntmps28
    go_wp2
    go_ret
    exact ⟨congrArg (fun b => Ending.returned (.bool b)) Hfin.out.symm, rfl⟩
theorem pairR_any (n : Nat) (x y : Int) (hn : n ≤ 8) (w : World) :
    Calls Try.prog 30 #[.int .i64 n, .agg #[.int .i64 x, .int .i64 y]] w fun e w' => e = .returned (.bool (decide (InSet n x ∧ InSet n y))) ∧ Below w.heap.size w w' := by
  by_cases h0 : InSet n x
  · have hfin : decide (InSet n y) = decide (InSet n x ∧ InSet n y) := decide_eq_decide.2 (by simp [h0])
    have Hfin := Lib.hid hfin
    clear hfin
    go_enter Try.func30, Try.ntmps30
    go_wp2_with (go_at_call 28; refine (setR_any n _ hn _).mono ?_; rintro e w' ⟨rfl, rfl⟩)
    go_ret
    exact ⟨congrArg (fun b => Ending.returned (.bool b)) Hfin.out, below_alloc _ _⟩
  · have hfin : decide (InSet n x ∧ InSet n y) = false := decide_eq_false (fun h => h0 h.1)
    have Hfin := Lib.hid hfin
    clear hfin
    go_enter Try.func30, Try.ntmps30
    go_wp2_with (go_at_call 28; refine (setR_any n _ hn _).mono ?_; rintro e w' ⟨rfl, rfl⟩)
    go_ret
    exact ⟨congrArg (fun b => Ending.returned (.bool b)) Hfin.out.symm, below_alloc _ _⟩
end Go.Proofs.Ytnidalbfmicoiaa

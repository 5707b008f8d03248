/- Contracts of deps, awake. -/
import Derived.Test.YtnidalbfmicoiaaWalkD
namespace Go.Proofs.Ytnidalbfmicoiaa
open Go.RowKit

theorem info32 : (Try.prog.info? 32).map (fun i => (i.zero, i.size, i.bytes)) = some (some (.agg #[.int .i64 0, .int .i64 0]), 2, 16) := by kernel_rfl
theorem elem28 : Elem Try.prog 28 32 2 16 := elem_of Try.underlying28 info32 rfl (by omega) (by omega)

theorem pairCells_append (a b : List (Int × Int)) : pairCells (a ++ b) = pairCells a ++ pairCells b := by simp [pairCells]
theorem pairCells_step (l : List (Int × Int)) (k : Nat) (h : k < l.length) : pairCells (l.take (k + 1)) = pairCells (l.take k) ++ [.int .i64 l[k].1, .int .i64 l[k].2] := by
  rw [List.take_succ_eq_append_getElem h, pairCells_append]; rfl
set_option maxRecDepth 100000 in
theorem deps_any (l : List (Int × Int)) (v : Value) (w : World) (hv : Deps w v l) :
    Calls Try.prog 22 #[v] w fun e w' => ∃ v', e = .returned v' ∧ Deps w' v' (l.take 14) ∧ Below w.heap.size w w' := by
  obtain ⟨a, b, off, cap, rfl, hle, ha, hc⟩ := Deps.get hv
  have hix := run_ix (P := Try.prog) (t := 22) (a := a) (len := l.length) (cap := cap) (b := b) (off := off) (s := 2) Try.underlying22 (by intro w; kernel_rfl) ha
  have Hc := Lib.hid hc
  clear ha hv hc
  go_enter Try.func22, Try.ntmps22
  go_wp2
  go_loopw [3, 8] (fun o i wr => ∃ k : Nat, i = .int .i64 k ∧ k ≤ l.length ∧ k ≤ 14 ∧ Below w.heap.size w wr ∧ wr.ownsRow w.heap.size 32 2 o k (pairCells (l.take k))) (fun _ i _ => l.length - (intOf i).toNat)
  case atStart => exact ⟨0, rfl, Nat.zero_le _, by omega, Below.refl _ _, World.ownsRow_nil _ _ _ _⟩
  case round =>
    obtain ⟨k, rfl, hk, hk14, hb, hown⟩ := hrel
    have Hown := Lib.hid hown
    clear hown
    by_cases hlt : k < l.length
    · have hc1 := Below.keep hb (Hc.out k hlt).1
      have hc2 := Below.keep hb (Hc.out k hlt).2
      by_cases h14 : k < 14
      · go_wp2_with (at_builtin; refine append_own rfl (.tmp 15) (.tmp 21) 28 rfl elem28 rfl ((Hown.out.alloc _).alloc _) [.int .i64 l[k].1, .int .i64 l[k].2] rfl rfl ?c1 ?c2 ?c3 ?c4 ?_)
        case c1 => intro j u hj; go_simp
        case c2 => intro u hu; simp at hu; rcases hu with rfl | rfl <;> rfl
        case c3 => omega
        case c4 => simp; have := hb.size; omega
        intro v' w' h1 h2 _
        have R := pairCells_step l k hlt
        have hb2 : Below w.heap.size w w' := ((hb.alloc hb.size _).alloc (by have := hb.size; simp; omega) _).trans h2
        rw [← R] at h1
        have H1 := Lib.hid h1
        clear R h1 h2
        go_wp2
        go_roundw
        case rel => exact ⟨k + 1, by go_num, by omega, by omega, hb2, H1.out⟩
        case measure => simp [intOf]; omega
      · have H := owns_rd Hown.out
        have he : k = 14 := by omega
        have hl : (l.take 14).length = k := by simp; omega
        have HF : Deps wr u3 (l.take 14) := by unfold Deps; rw [hl, ← he]; exact H
        have HF := Lib.hid HF
        clear hl H he
        go_wp2
        go_ret
        exact ⟨_, rfl, HF.out.keep (below_alloc _ _), hb.alloc hb.size _⟩
    · obtain rfl : k = l.length := by omega
      have H := owns_rd Hown.out
      have hl : l.take 14 = l.take l.length := by rw [List.take_of_length_le hk14, List.take_length]
      have HF : Deps wr u3 (l.take 14) := by rw [hl]; unfold Deps; simpa using H
      have HF := Lib.hid HF
      clear hl H
      go_wp2
      go_ret
      exact ⟨_, rfl, HF.out, hb⟩

theorem awake_any (w : World) : Calls Try.prog 26 #[] w fun e w' => e = .returned (.bool true) ∧ Below w.heap.size w w' := by
  have hv : Deps (w.alloc (.cells #[.int .i64 1, .int .i64 2, .int .i64 2, .int .i64 4] 32)) (.slice (some ⟨w.heap.size, 0, none⟩) 2 2) (castD [(1, 2), (2, 4)]) :=
    rd_new w #[.int .i64 1, .int .i64 2, .int .i64 2, .int .i64 4] 32 2 2 rfl (by unfold maxLen; omega)
  have H := closure_ok 3 1 [(1, 2), (2, 4)] _ _ hv (by omega) (by omega) (by decide) (by intro d hd; simp at hd; rcases hd with rfl | rfl <;> decide) (by decide)
  rw [show cl [(1, 2), (2, 4)] 1 = 7 by decide +kernel] at H
  have H := Lib.hid H
  clear hv
  go_enter Try.func26, Try.ntmps26
  go_wp2_with fail
  refine H.out.mono ?_
  rintro e w' ⟨rfl, hb⟩
  go_wp2
  go_ret
  exact ⟨rfl, Below.tr (below_alloc _ _) hb⟩

/-- Closure, of any arguments: its two results -/
def ClRes (n s : Int) (l : List (Int × Int)) (c e : Int) : Prop :=
  (¬ ValidP n l [s] ∧ c = 0 ∧ e = 2) ∨ ∃ (m t : Nat) (l' : List DepN), n = m ∧ s = t ∧ l = castD l' ∧ 1 ≤ m ∧ m ≤ 8 ∧ l'.length ≤ 12 ∧ AllLt l' (2 ^ m) ∧ t < 2 ^ m ∧ c = (cl l' t : Nat) ∧ e = 0
theorem closure_any (n s : Int) (l : List (Int × Int)) (v : Value) (w : World) (hv : Deps w v l) :
    Calls Try.prog 21 #[.int .i64 n, v, .int .i64 s] w fun e w' => ∃ c r, e = .returned (.tuple #[.int .i64 c, .int .i64 r]) ∧ ClRes n s l c r ∧ Below w.heap.size w w' := by
  by_cases h : ValidP n l [s]
  · obtain ⟨m, l', t, rfl, h1, h8, rfl, h12, hl, ht, hlt⟩ := h.nat
    match t, ht with
    | [t], ht =>
      have hs : s = (t : Int) := by simpa using ht
      subst hs
      exact (closure_ok m t l' v w hv h1 h8 h12 hl (hlt t (by simp))).mono fun e w' ⟨he, hb⟩ => ⟨_, _, he, .inr ⟨m, t, l', rfl, rfl, rfl, h1, h8, h12, hl, hlt t (by simp), rfl, rfl⟩, hb⟩
    | [], ht => simp at ht
    | _ :: _ :: _, ht => simp at ht
  · exact (closure_bad n s l v w hv h).mono fun e w' ⟨he, hb⟩ => ⟨_, _, he, .inl ⟨h, rfl, rfl⟩, hb⟩

/-- valid n and dependencies -/
structure Okl (m : Nat) (l : List DepN) : Prop where
  h1 : 1 ≤ m
  h8 : m ≤ 8
  h12 : l.length ≤ 12
  hl : AllLt l (2 ^ m)
theorem Okl.pow {m : Nat} {l : List DepN} (h : Okl m l) : 2 ^ m ≤ 256 ∧ 1 ≤ 2 ^ m := ⟨(pow_cast m h.h8).2.1, (pow_cast m h.h8).2.2⟩
theorem Okl.lt {m : Nat} {l : List DepN} (h : Okl m l) : AllLt l 256 := fun d hd => by have := h.hl d hd; have := h.pow; exact ⟨by omega, by omega⟩
theorem Okl.valid {m : Nat} {l : List DepN} (h : Okl m l) (s : Int) : ValidP m (castD l) [s] ↔ InSet m s := by
  have := validP_nat (t := []) h.h1 h.h8 h.h12 h.hl (by simp)
  exact ⟨fun hv => hv.2.2 s (by simp), fun hs => ⟨this.1, this.2.1, fun x hx => by simp at hx; subst hx; exact hs⟩⟩
theorem InSet.nat {m : Nat} {s : Int} (h : InSet m s) : ∃ t : Nat, s = t ∧ t < 2 ^ m := by
  rw [inSet_nat] at h
  exact ⟨s.toNat, by omega, by omega⟩
theorem closure_set {m : Nat} {l : List DepN} (h : Okl m l) (s : Int) (v : Value) (w : World) (hv : Deps w v (castD l)) :
    Calls Try.prog 21 #[.int .i64 m, v, .int .i64 s] w fun e w' => ∃ c r, e = .returned (.tuple #[.int .i64 c, .int .i64 r]) ∧ ((¬ InSet m s ∧ c = 0 ∧ r = 2) ∨ ∃ t : Nat, s = t ∧ t < 2 ^ m ∧ c = (cl l t : Nat) ∧ r = 0) ∧ Below w.heap.size w w' := by
  by_cases hs : InSet m s
  · obtain ⟨t, rfl, ht⟩ := hs.nat
    exact (closure_ok m t l v w hv h.h1 h.h8 h.h12 h.hl ht).mono fun e w' ⟨he, hb⟩ => ⟨_, _, he, .inr ⟨t, rfl, ht, rfl, rfl⟩, hb⟩
  · exact (closure_bad m s _ v w hv (fun hq => hs ((h.valid s).1 hq))).mono fun e w' ⟨he, hb⟩ => ⟨_, _, he, .inl ⟨hs, rfl, rfl⟩, hb⟩
theorem closure_nat {m t : Nat} {l : List DepN} (h : Okl m l) (ht : t < 2 ^ m) (v : Value) (w : World) (hv : Deps w v (castD l)) :
    Calls Try.prog 21 #[.int .i64 m, v, .int .i64 t] w fun e w' => e = .returned (.tuple #[.int .i64 (cl l t : Nat), .int .i64 0]) ∧ Below w.heap.size w w' :=
  closure_ok m t l v w hv h.h1 h.h8 h.h12 h.hl ht
/-- not valid: n or the dependencies -/
theorem deps_cases (n : Int) (l : List (Int × Int)) : (∀ s, ¬ ValidP n l s) ∨ ∃ (m : Nat) (l' : List DepN), n = m ∧ l = castD l' ∧ Okl m l' := by
  by_cases h : ValidP n l []
  · obtain ⟨m, l', t, rfl, h1, h8, rfl, h12, hl, _, _⟩ := h.nat
    exact .inr ⟨m, l', rfl, rfl, ⟨h1, h8, h12, hl⟩⟩
  · exact .inl fun s hs => h ⟨hs.1, hs.2.1, fun x hx => by simp at hx⟩
end Go.Proofs.Ytnidalbfmicoiaa

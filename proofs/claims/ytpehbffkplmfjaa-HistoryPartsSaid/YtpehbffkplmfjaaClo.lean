/- Contracts of firstOrder's closures, of IndexFunc and ContainsFunc over them. -/
import Derived.Test.YtpehbffkplmfjaaDel
namespace Go.Proofs.Ytpehbffkplmfjaa
open Go.RowKit

/-- where a predicate first holds; -1: nowhere -/
def idx (p : Nat → Bool) : List Nat → Nat → Int
  | [], _ => -1
  | x :: l, k => if p x = true then (k : Int) else idx p l (k + 1)
theorem idx_drop (p : Nat → Bool) (l : List Nat) : ∀ (m k : Nat), k + m = l.length → (∀ j, j < k → p (l.getD j 0) = false) → idx p l 0 = idx p (l.drop k) k := by
  have key : ∀ (k : Nat), k ≤ l.length → (∀ j, j < k → p (l.getD j 0) = false) → idx p l 0 = idx p (l.drop k) k := by
    intro k
    induction k with
    | zero => intro _ _; rw [List.drop_zero]
    | succ k ih =>
      intro hk hj
      rw [ih (by omega) (fun j h => hj j (by omega)), List.drop_eq_getElem_cons (show k < l.length by omega), idx]
      have := hj k (by omega)
      rw [List.getD_eq_getElem?_getD, List.getElem?_eq_getElem (by omega)] at this
      rw [if_neg (by rw [Option.getD_some] at this; rw [this]; simp)]
  exact fun m k h => key k (by omega)
theorem idx_at (p : Nat → Bool) (l : List Nat) {k : Nat} (hk : k < l.length) (hj : ∀ j, j < k → p (l.getD j 0) = false) (h : p (l.getD k 0) = true) : idx p l 0 = k := by
  rw [idx_drop p l (l.length - k) k (by omega) hj, List.drop_eq_getElem_cons hk, idx]
  rw [List.getD_eq_getElem?_getD, List.getElem?_eq_getElem hk, Option.getD_some] at h
  rw [if_pos h]
theorem idx_no (p : Nat → Bool) (l : List Nat) (hj : ∀ j, j < l.length → p (l.getD j 0) = false) : idx p l 0 = -1 := by
  rw [idx_drop p l 0 l.length (by omega) hj, List.drop_length]; rfl
theorem idx_any (p : Nat → Bool) (l : List Nat) : ∀ k, decide (idx p l k ≥ 0) = l.any p := by
  induction l with
  | nil => intro k; rfl
  | cons x l ih =>
    intro k
    rw [idx, List.any_cons]
    cases h : p x
    · rw [if_neg (by simp), ih (k + 1)]; rfl
    · rw [if_pos rfl, decide_eq_true (by omega)]; rfl
theorem idx_spec (p : Nat → Bool) (l : List Nat) : ∀ k, (idx p l k = -1 ∧ l.any p = false) ∨ ∃ j : Nat, j < l.length ∧ idx p l k = ((k + j : Nat) : Int) := by
  induction l with
  | nil => intro k; exact .inl ⟨rfl, rfl⟩
  | cons x l ih =>
    intro k
    rw [idx, List.any_cons]
    cases h : p x
    · rw [if_neg (by simp)]
      rcases ih (k + 1) with ⟨h1, h2⟩ | ⟨j, hj, he⟩
      · exact .inl ⟨h1, by rw [h2]; rfl⟩
      · exact .inr ⟨j + 1, by simp; omega, by rw [he]; omega⟩
    · rw [if_pos rfl]
      exact .inr ⟨0, by simp, by simp⟩
theorem getD_mem {l : List Nat} {k : Nat} (h : k < l.length) : l.getD k 0 ∈ l := by
  rw [List.getD_eq_getElem?_getD, List.getElem?_eq_getElem h]; exact List.getElem_mem h
theorem IntsN.get {w : World} {v : Value} {l : List Nat} (h : Ints w v (castN l)) : ∃ a b off cap, v = .slice a l.length cap ∧ l.length ≤ 9223372036854775807 ∧ (0 < l.length → a = some ⟨b, off, none⟩) ∧
    ∀ i, i < l.length → w.cell? ⟨b, off + i, none⟩ = some (.int .i64 (l.getD i 0 : Nat)) := by
  obtain ⟨a, b, off, cap, h1, h2, h3, h4⟩ := Ints.get h
  rw [castN_length] at h1 h2 h3
  refine ⟨a, b, off, cap, h1, h2, h3, fun i hi => ?_⟩
  rw [h4 i (by rw [castN_length]; exact hi), List.getD_eq_getElem?_getD, List.getElem?_eq_getElem hi]
  simp [castN]
set_option maxRecDepth 100000 in
set_option maxHeartbeats 4000000 in
theorem inner_any {w : World} {be pe pb : Nat} {f : Nat → Nat} {a t : Nat} (hB : EdB w be f) (he : w.cell? ⟨pe, 0, none⟩ = some (.pointer (some ⟨be, 0, none⟩))) (hb : w.cell? ⟨pb, 0, none⟩ = some (.int .i64 t)) (ha : a < 7) (ht : t < 7) (hf : f a < 128) :
    Calls Try.prog 92 #[.int .i64 a, .pointer (some ⟨pe, 0, none⟩), .pointer (some ⟨pb, 0, none⟩)] w fun e w' => e = .returned (.bool ((f a).testBit t)) ∧ Below w.heap.size w w' := by
  obtain ⟨B, hB2⟩ : ∃ B, B = (f a).testBit t := ⟨_, rfl⟩
  have Hh := Lib.hid (has_any hB ha ht hf B hB2.symm)
  rw [← hB2]
  clear hB2 hB ha ht hf
  go_enter Try.func92, Try.ntmps92
  go_wp2_with fail
  refine Hh.out.mono ?_
  rintro e w1 ⟨rfl, rfl⟩
  go_wp2_with fail
  go_ret
  exact ⟨rfl, Below.refl _ _⟩
set_option maxRecDepth 100000 in
set_option maxHeartbeats 4000000 in
theorem indexFunc92_any (p : Nat → Bool) (l : List Nat) (s c1 c2 : Value) (w : World) (hs : Ints w s (castN l))
    (H : ∀ x, x ∈ l → ∀ w', Below w.heap.size w w' → Calls Try.prog 92 #[.int .i64 x, c1, c2] w' fun e w'' => e = .returned (.bool (p x)) ∧ Below w'.heap.size w' w'') :
    Calls Try.prog 89 #[s, .func (.func 92) #[] #[c1, c2]] w fun e w' => e = .returned (.int .i64 (idx p l 0)) ∧ Below w.heap.size w w' := by
  obtain ⟨a, b, off, cap, rfl, hle, ha, hc⟩ := IntsN.get hs
  have hix := run_ix (P := Try.prog) (t := 24) (a := a) (len := l.length) (cap := cap) (b := b) (off := off) (s := 1) Try.underlying24 (by intro w; kernel_rfl) ha
  simp only [Nat.mul_one] at hix
  have Hc := Lib.hid hc
  have Hix := Lib.hid hix
  have HH := Lib.hid H
  clear hs hc hix ha H
  go_enter Try.func89, Try.ntmps89
  go_wp2_with fail
  go_loopw [8] (fun i wr => ∃ k : Nat, i = .int .i64 k ∧ k ≤ l.length ∧ Below w.heap.size w wr ∧ ∀ j, j < k → p (l.getD j 0) = false) (fun i _ => l.length - (intOf i).toNat)
  case atStart => exact ⟨0, rfl, Nat.zero_le _, Below.refl _ _, fun q hq => by omega⟩
  case round =>
    obtain ⟨k, rfl, hk, hb, hin⟩ := hrel
    have Hin := Lib.hid hin
    have Hb := Lib.hid hb
    clear hin hb
    by_cases hlt : k < l.length
    · have hck := Below.keep Hb.out (Hc.out k hlt)
      have hixk := Hix.out k
      have Hcl := Lib.hid (HH.out _ (getD_mem hlt) wr Hb.out)
      cases ht : p (l.getD k 0) with
      | false =>
        have R := Lib.hid (show ∀ j, j < k + 1 → p (l.getD j 0) = false from fun j hj => by
          by_cases e : j = k
          · rw [e]; exact ht
          · exact Hin.out j (by omega))
        have Hcl := Lib.hid (ht ▸ Hcl.out)
        clear ht
        generalize l.getD k 0 = y at *
        go_wp2_with fail
        refine Hcl.out.mono ?_
        rintro e w1 ⟨rfl, hb1⟩
        have Hb1 := Lib.hid (Below.tr Hb.out hb1)
        clear hb1
        go_wp2_with fail
        go_roundw
        case rel => exact ⟨k + 1, by go_num, by omega, Hb1.out, R.out⟩
        case measure => simp [intOf]; omega
      | true =>
        have R := Lib.hid (idx_at p l hlt Hin.out ht)
        have Hcl := Lib.hid (ht ▸ Hcl.out)
        clear ht
        generalize l.getD k 0 = y at *
        go_wp2_with fail
        refine Hcl.out.mono ?_
        rintro e w1 ⟨rfl, hb1⟩
        have Hb1 := Lib.hid (Below.tr Hb.out hb1)
        clear hb1
        go_wp2_with fail
        go_ret
        exact ⟨by rw [R.out]; rfl, Hb1.out⟩
    · obtain rfl : k = l.length := by omega
      have R := Lib.hid (idx_no p l Hin.out)
      go_wp2_with fail
      go_ret
      exact ⟨by rw [R.out]; rfl, Hb.out⟩
set_option maxRecDepth 100000 in
set_option maxHeartbeats 4000000 in
theorem containsFunc_any (p : Nat → Bool) (l : List Nat) (B : Bool) (hB : l.any p = B) (s c1 c2 : Value) (w : World) (hs : Ints w s (castN l))
    (H : ∀ x, x ∈ l → ∀ w', Below w.heap.size w w' → Calls Try.prog 92 #[.int .i64 x, c1, c2] w' fun e w'' => e = .returned (.bool (p x)) ∧ Below w'.heap.size w' w'') :
    Calls Try.prog 91 #[s, .func (.func 92) #[] #[c1, c2]] w fun e w' => e = .returned (.bool B) ∧ Below w.heap.size w w' := by
  have HI := Lib.hid (indexFunc92_any p l s c1 c2 w hs H)
  have R := Lib.hid (show decide (idx p l 0 ≥ 0) = B by rw [idx_any, hB])
  obtain ⟨z, hz⟩ : ∃ z, z = idx p l 0 := ⟨_, rfl⟩
  rw [← hz] at HI R
  clear hs H hB hz
  go_enter Try.func91, Try.ntmps91
  go_wp2_with fail
  refine HI.out.mono ?_
  rintro e w1 ⟨rfl, hb1⟩
  have Hb1 := Lib.hid hb1
  clear hb1
  go_wp2_with fail
  go_ret
  exact ⟨by rw [← R.out]; rfl, Hb1.out⟩
/-- no edge leads from the left ones to b -/
def free (f : Nat → Nat) (l : List Nat) (b : Nat) : Bool := !l.any fun a => (f a).testBit b
set_option maxRecDepth 100000 in
set_option maxHeartbeats 4000000 in
theorem outer_any {w : World} {be pe pl : Nat} {f : Nat → Nat} {l : List Nat} {s : Value} {t : Nat} (hB : EdB w be f) (he : w.cell? ⟨pe, 0, none⟩ = some (.pointer (some ⟨be, 0, none⟩))) (hl : w.cell? ⟨pl, 0, none⟩ = some s) (hs : Ints w s (castN l))
    (h7 : ∀ x, x ∈ l → x < 7) (ht : t < 7) (hf : ∀ x, f x < 128) :
    Calls Try.prog 90 #[.int .i64 t, .pointer (some ⟨pl, 0, none⟩), .pointer (some ⟨pe, 0, none⟩)] w fun e w' => e = .returned (.bool (free f l t)) ∧ Below w.heap.size w w' := by
  obtain ⟨B, hBb⟩ : ∃ B, B = l.any fun a => (f a).testBit t := ⟨_, rfl⟩
  have R := Lib.hid (show free f l t = !B by rw [hBb]; rfl)
  have hb0 := below_alloc w (.cells #[.int .i64 t] 3)
  have HC := Lib.hid (containsFunc_any (fun a => (f a).testBit t) l B hBb.symm s (.pointer (some ⟨pe, 0, none⟩)) (.pointer (some ⟨w.heap.size, 0, none⟩)) _ (hs.keep hb0) (fun x hx w' hb' =>
    inner_any ((Blk.keep hB hb0).keep hb') (Below.keep hb' (Below.keep hb0 he)) (Below.keep hb' (cell_new w #[.int .i64 t] 3 0)) (h7 x hx) ht (hf x)))
  have Hb0 := Lib.hid hb0
  have HL := Lib.hid (Below.keep hb0 hl)
  obtain ⟨a0, c0, hsl⟩ : ∃ a0 c0, s = .slice a0 l.length c0 := by
    obtain ⟨a, b, off, cap, h1, _⟩ := IntsN.get hs
    exact ⟨a, cap, h1⟩
  subst hsl
  clear hBb hs hB he h7 ht hf hb0 hl
  have hl := HL.out
  go_enter Try.func90, Try.ntmps90
  go_wp2_with fail
  refine HC.out.mono ?_
  rintro e w1 ⟨rfl, hb1⟩
  have Hb1 := Lib.hid (Below.tr Hb0.out hb1)
  clear hb1
  go_wp2_with fail
  go_ret
  exact ⟨by rw [R.out]; rfl, Hb1.out⟩
set_option maxRecDepth 100000 in
set_option maxHeartbeats 4000000 in
theorem indexFunc90_any (p : Nat → Bool) (l : List Nat) (s c1 c2 : Value) (w : World) (hs : Ints w s (castN l))
    (H : ∀ x, x ∈ l → ∀ w', Below w.heap.size w w' → Calls Try.prog 90 #[.int .i64 x, c1, c2] w' fun e w'' => e = .returned (.bool (p x)) ∧ Below w'.heap.size w' w'') :
    Calls Try.prog 89 #[s, .func (.func 90) #[] #[c1, c2]] w fun e w' => e = .returned (.int .i64 (idx p l 0)) ∧ Below w.heap.size w w' := by
  obtain ⟨a, b, off, cap, rfl, hle, ha, hc⟩ := IntsN.get hs
  have hix := run_ix (P := Try.prog) (t := 24) (a := a) (len := l.length) (cap := cap) (b := b) (off := off) (s := 1) Try.underlying24 (by intro w; kernel_rfl) ha
  simp only [Nat.mul_one] at hix
  have Hc := Lib.hid hc
  have Hix := Lib.hid hix
  have HH := Lib.hid H
  clear hs hc hix ha H
  go_enter Try.func89, Try.ntmps89
  go_wp2_with fail
  go_loopw [8] (fun i wr => ∃ k : Nat, i = .int .i64 k ∧ k ≤ l.length ∧ Below w.heap.size w wr ∧ ∀ j, j < k → p (l.getD j 0) = false) (fun i _ => l.length - (intOf i).toNat)
  case atStart => exact ⟨0, rfl, Nat.zero_le _, Below.refl _ _, fun q hq => by omega⟩
  case round =>
    obtain ⟨k, rfl, hk, hb, hin⟩ := hrel
    have Hin := Lib.hid hin
    have Hb := Lib.hid hb
    clear hin hb
    by_cases hlt : k < l.length
    · have hck := Below.keep Hb.out (Hc.out k hlt)
      have hixk := Hix.out k
      have Hcl := Lib.hid (HH.out _ (getD_mem hlt) wr Hb.out)
      cases ht : p (l.getD k 0) with
      | false =>
        have R := Lib.hid (show ∀ j, j < k + 1 → p (l.getD j 0) = false from fun j hj => by
          by_cases e : j = k
          · rw [e]; exact ht
          · exact Hin.out j (by omega))
        have Hcl := Lib.hid (ht ▸ Hcl.out)
        clear ht
        generalize l.getD k 0 = y at *
        go_wp2_with fail
        refine Hcl.out.mono ?_
        rintro e w1 ⟨rfl, hb1⟩
        have Hb1 := Lib.hid (Below.tr Hb.out hb1)
        clear hb1
        go_wp2_with fail
        go_roundw
        case rel => exact ⟨k + 1, by go_num, by omega, Hb1.out, R.out⟩
        case measure => simp [intOf]; omega
      | true =>
        have R := Lib.hid (idx_at p l hlt Hin.out ht)
        have Hcl := Lib.hid (ht ▸ Hcl.out)
        clear ht
        generalize l.getD k 0 = y at *
        go_wp2_with fail
        refine Hcl.out.mono ?_
        rintro e w1 ⟨rfl, hb1⟩
        have Hb1 := Lib.hid (Below.tr Hb.out hb1)
        clear hb1
        go_wp2_with fail
        go_ret
        exact ⟨by rw [R.out]; rfl, Hb1.out⟩
    · obtain rfl : k = l.length := by omega
      have R := Lib.hid (idx_no p l Hin.out)
      go_wp2_with fail
      go_ret
      exact ⟨by rw [R.out]; rfl, Hb.out⟩
#print axioms outer_any
#print axioms indexFunc90_any
end Go.Proofs.Ytpehbffkplmfjaa

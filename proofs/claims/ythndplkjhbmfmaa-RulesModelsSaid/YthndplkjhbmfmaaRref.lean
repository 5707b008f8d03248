/- The order of lists of numbers. Contracts of the reference's Before and Equal. Contract of the reference's Put: a list of rows in their order, with one more. Contract of the reference's Key. The reference's code, Fact, given. Sets of facts of the reference; contracts of given, free, Of. Contract of the reference's free. Instances of the reference: math. Contract of the reference's instances. The reference's Consequences: math. Contract of the reference's Consequences. Contract of the reference's Model. Contract of the reference's List. -/
import Derived.Test.YthndplkjhbmfmaaOwn
import Derived.WalkSpells
import Derived.Test.YthndplkjhbmfmaaRws
import Derived.Test.YthndplkjhbmfmaaSrc
import Derived.Test.YthndplkjhbmfmaaHeld
import Derived.Test.YthndplkjhbmfmaaRfs
import Derived.Deep.DeepCutAuto
import Derived.Test.YthndplkjhbmfmaaRof
import Derived.Test.YthndplkjhbmfmaaRvc
import Derived.Test.YthndplkjhbmfmaaRno
import Derived.Test.YthndplkjhbmfmaaRsu
import Derived.Test.YthndplkjhbmfmaaRmm
namespace Go.Proofs.Ythndplkjhbmfmaa
open Go.RowKit
def cmpL : List Int → List Int → Int
  | [], [] => 0
  | [], _ :: _ => -1
  | _ :: _, [] => 1
  | x :: xs, y :: ys => if x < y then -1 else if y < x then 1 else cmpL xs ys
theorem cmpL_refl : ∀ x, cmpL x x = 0
  | [] => rfl
  | x :: xs => by rw [cmpL, if_neg (by omega), if_neg (by omega)]; exact cmpL_refl xs
theorem cmpL_eq : ∀ {x y : List Int}, cmpL x y = 0 → x = y
  | [], [], _ => rfl
  | [], _ :: _, h => by simp [cmpL] at h
  | _ :: _, [], h => by simp [cmpL] at h
  | x :: xs, y :: ys, h => by
    rw [cmpL] at h
    split at h
    · omega
    · split at h
      · omega
      · rw [cmpL_eq h, show x = y by omega]
theorem cmpL_swap : ∀ x y : List Int, cmpL y x = - cmpL x y
  | [], [] => rfl
  | [], _ :: _ => rfl
  | _ :: _, [] => rfl
  | x :: xs, y :: ys => by
    rw [cmpL, cmpL]
    by_cases h : x < y
    · rw [if_neg (by omega), if_pos h, if_pos h]; rfl
    · by_cases h2 : y < x
      · rw [if_pos h2, if_neg h, if_pos h2]
      · rw [if_neg h2, if_neg h, if_neg h, if_neg h2]; exact cmpL_swap xs ys
theorem cmpL_trans : ∀ {x y z : List Int}, cmpL x y < 0 → cmpL y z < 0 → cmpL x z < 0
  | [], [], _, h, _ => by simp [cmpL] at h
  | [], _ :: _, [], _, h => by simp [cmpL] at h
  | [], _ :: _, _ :: _, _, _ => by simp [cmpL]
  | _ :: _, [], _, h, _ => by simp [cmpL] at h
  | _ :: _, _ :: _, [], _, h => by simp [cmpL] at h
  | x :: xs, y :: ys, z :: zs, h, k => by
    rw [cmpL] at h k ⊢
    by_cases a : x < y
    · by_cases b : y < z
      · rw [if_pos (by omega)]; omega
      · rw [if_neg b] at k
        by_cases b2 : z < y
        · rw [if_pos b2] at k; omega
        · rw [if_pos (by omega)]; omega
    · rw [if_neg a] at h
      by_cases a2 : y < x
      · rw [if_pos a2] at h; omega
      · rw [if_neg a2] at h
        obtain rfl : x = y := by omega
        by_cases b : x < z
        · rw [if_pos b]; omega
        · rw [if_neg b] at k ⊢
          by_cases b2 : z < x
          · rw [if_pos b2] at k; omega
          · rw [if_neg b2] at k ⊢; exact cmpL_trans h k
theorem cmpL_drop {x y : List Int} {k : Nat} (h1 : k < x.length) (h2 : k < y.length) : cmpL (x.drop k) (y.drop k) = if x[k] < y[k] then -1 else if y[k] < x[k] then 1 else cmpL (x.drop (k + 1)) (y.drop (k + 1)) := by
  rw [List.drop_eq_getElem_cons h1, List.drop_eq_getElem_cons h2, cmpL]
theorem cmpL_range : ∀ x y : List Int, -1 ≤ cmpL x y ∧ cmpL x y ≤ 1
  | [], [] => by simp [cmpL]
  | [], _ :: _ => by simp [cmpL]
  | _ :: _, [] => by simp [cmpL]
  | x :: xs, y :: ys => by
    rw [cmpL]
    split
    · omega
    · split
      · omega
      · exact cmpL_range xs ys
/-! ### sorted lists -/
def Strict (l : List (List Int)) : Prop := l.Pairwise fun x y => cmpL x y < 0
theorem strict_nodup {l : List (List Int)} (h : Strict l) : l.Nodup := by
  rw [List.nodup_iff_pairwise_ne]
  refine List.Pairwise.imp (fun {a b} hab e => ?_) h
  subst e; rw [cmpL_refl] at hab; omega
theorem strict_eq : ∀ {l m : List (List Int)}, Strict l → Strict m → (∀ x, x ∈ l ↔ x ∈ m) → l = m
  | [], [], _, _, _ => rfl
  | [], y :: m, _, _, h => by have := (h y).2 (by simp); simp at this
  | x :: l, [], _, _, h => by have := (h x).1 (by simp); simp at this
  | x :: l, y :: m, hl, hm, h => by
    obtain ⟨l1, l2⟩ := List.pairwise_cons.1 hl
    obtain ⟨m1, m2⟩ := List.pairwise_cons.1 hm
    have e : x = y := by
      rcases List.mem_cons.1 ((h x).1 (by simp)) with e | hx
      · exact e
      · rcases List.mem_cons.1 ((h y).2 (by simp)) with e | hy
        · exact e.symm
        · have a := l1 y hy
          have b := m1 x hx
          rw [cmpL_swap] at b; omega
    subst e
    rw [strict_eq (l := l) (m := m) l2 m2 fun z => ?_]
    have hz := h z
    simp only [List.mem_cons] at hz
    constructor
    · intro q
      rcases hz.1 (.inr q) with rfl | q'
      · have := l1 z q; rw [cmpL_refl] at this; omega
      · exact q'
    · intro q
      rcases hz.2 (.inr q) with rfl | q'
      · have := m1 z q; rw [cmpL_refl] at this; omega
      · exact q'
#print axioms strict_eq
set_option maxHeartbeats 2000000 in
theorem before_any (x y : List Int) (v u : Value) (w : World) (hv : Ints w v x) (hu : Ints w u y) :
    Calls Try.prog 128 #[v, u] w fun e w' => e = .returned (.bool (decide (cmpL x y < 0))) ∧ w = w' := by
  obtain ⟨a, b, off, cap, rfl, hle, ha, hc⟩ := Ints.get hv
  have hix := run_ix (P := Try.prog) (t := 23) (a := a) (len := x.length) (cap := cap) (b := b) (off := off) (s := 1) Try.underlying23 (by intro w; kernel_rfl) ha
  simp only [Nat.mul_one] at hix
  have Hc := Lib.hid hc
  obtain ⟨a', b', off', cap', rfl, hle', ha', hc'⟩ := Ints.get hu
  have hix' := run_ix (P := Try.prog) (t := 23) (a := a') (len := y.length) (cap := cap') (b := b') (off := off') (s := 1) Try.underlying23 (by intro w; kernel_rfl) ha'
  simp only [Nat.mul_one] at hix'
  have Hc' := Lib.hid hc'
  have Hix := Lib.hid hix
  have Hix' := Lib.hid hix'
  clear ha hv hc ha' hu hc' hix hix'
  obtain ⟨C, hC⟩ : ∃ C, C = cmpL x y := ⟨_, rfl⟩
  obtain ⟨B, hB⟩ : ∃ B, B = decide (C < 0) := ⟨_, rfl⟩
  rw [← hC, ← hB]
  have HB := Lib.hid hB
  have HC := Lib.hid (show C = cmpL (x.drop 0) (y.drop 0) from by rw [hC]; rfl)
  clear hC hB
  go_enter Try.func128, Try.ntmps128
  go_wp2_with fail
  go_loopw [9] (fun i wr => ∃ k : Nat, i = .int .i64 k ∧ k ≤ x.length ∧ k ≤ y.length ∧ wr = w ∧ C = cmpL (x.drop k) (y.drop k)) (fun i _ => x.length - (intOf i).toNat)
  case atStart => exact ⟨0, rfl, Nat.zero_le _, Nat.zero_le _, rfl, HC.out⟩
  case round =>
    obtain ⟨k, rfl, hk, hky, hwr, hin⟩ := hrel
    subst hwr
    have Hin := Lib.hid hin
    clear hin HC
    by_cases hlt : k < x.length
    · have hck := Hc.out k hlt
      have hixk := Hix.out k
      by_cases hy : k < y.length
      · have hck' := Hc'.out k hy
        have hixk' := Hix'.out k
        have hD := Hin.out.trans (cmpL_drop hlt hy)
        obtain ⟨s, hs⟩ : ∃ s, s = x[k] := ⟨_, rfl⟩
        obtain ⟨t, ht⟩ : ∃ t, t = y[k] := ⟨_, rfl⟩
        rw [← hs] at hck hD
        rw [← ht] at hck' hD
        have HD := Lib.hid hD
        clear hs ht hD
        by_cases h1 : s < t
        · have R := Lib.hid (HD.out.trans (if_pos h1))
          have h2 : ¬ t < s := by omega
          go_wp2_with fail
          go_ret
          exact ⟨by rw [HB.out, R.out]; rfl, rfl⟩
        · by_cases h2 : t < s
          · have R := Lib.hid (HD.out.trans ((if_neg h1).trans (if_pos h2)))
            go_wp2_with fail
            go_ret
            exact ⟨by rw [HB.out, R.out]; rfl, rfl⟩
          · have R := Lib.hid (HD.out.trans ((if_neg h1).trans (if_neg h2)))
            go_wp2_with fail
            go_roundw
            case rel => exact ⟨k + 1, by go_num, by omega, by omega, by first | rfl | trivial, R.out⟩
            case measure => simp [intOf]; omega
      · obtain rfl : k = y.length := by omega
        have R := Lib.hid (show C = 1 from by rw [Hin.out, List.drop_length, List.drop_eq_getElem_cons hlt]; rfl)
        go_wp2_with fail
        go_ret
        exact ⟨by rw [HB.out, R.out]; rfl, rfl⟩
    · obtain rfl : k = x.length := by omega
      by_cases hy : x.length < y.length
      · have R := Lib.hid (show C = -1 from by rw [Hin.out, List.drop_length, List.drop_eq_getElem_cons hy]; rfl)
        go_wp2_with fail
        go_ret
        exact ⟨by rw [HB.out, R.out]; rfl, rfl⟩
      · have R := Lib.hid (show C = 0 from by rw [Hin.out, List.drop_length, List.drop_eq_nil_of_le (by omega)]; rfl)
        go_wp2_with fail
        go_ret
        exact ⟨by rw [HB.out, R.out]; rfl, rfl⟩
theorem equalQ_any (x y : List Int) (v u : Value) (w : World) (hv : Ints w v x) (hu : Ints w u y) :
    Calls Try.prog 129 #[v, u] w fun e w' => e = .returned (.bool (decide (x = y))) ∧ w = w' := by
  have H1 := Lib.hid (before_any x y v u w hv hu)
  have H2 := Lib.hid (before_any y x u v w hu hv)
  have HE := Lib.hid (show decide (x = y) = (!decide (cmpL x y < 0) && !decide (cmpL y x < 0)) from by
    have hs := cmpL_swap x y
    by_cases e : x = y
    · subst e
      have := cmpL_refl x
      simp [this]
    · have h0 : cmpL x y ≠ 0 := fun h => e (cmpL_eq h)
      rw [decide_eq_false e]
      rcases Int.lt_or_gt_of_ne h0 with h | h
      · simp [h]
      · have : cmpL y x < 0 := by omega
        simp [this])
  rw [HE.out]
  clear hv hu HE
  obtain ⟨A, hA⟩ : ∃ A, A = decide (cmpL x y < 0) := ⟨_, rfl⟩
  obtain ⟨B, hB⟩ : ∃ A, A = decide (cmpL y x < 0) := ⟨_, rfl⟩
  rw [← hA] at H1 ⊢
  rw [← hB] at H2 ⊢
  clear hA hB
  go_enter Try.func129, Try.ntmps129
  go_wp2_with fail
  refine H1.out.mono ?_
  rintro e w1 ⟨rfl, rfl⟩
  cases A
  · go_wp2_with fail
    refine H2.out.mono ?_
    rintro e w1 ⟨rfl, rfl⟩
    go_wp2_with fail
    go_ret
    exact ⟨by cases B <;> rfl, rfl⟩
  · go_wp2_with fail
    go_ret
    exact ⟨rfl, rfl⟩
#print axioms before_any
#print axioms equalQ_any
theorem rows_of {w : World} {v : Value} {ps : List (Value × List Int)} {n : Nat} (hn : n = ps.length) (h : Rd w v 1 n (ps.map (·.1))) (hi : ∀ p, p ∈ ps → Ints w p.1 p.2) : Rows w v (ps.map (·.2)) := by
  subst hn
  refine ⟨ps.map (·.1), by simp, by rw [List.length_map]; exact h, fun i a b => ?_⟩
  rw [List.getElem_map, List.getElem_map]
  exact hi _ (List.getElem_mem _)
/-- what Put returns -/
def PutR (L : List (List Int)) (X : List Int) (R : List (List Int)) : Prop := Strict R ∧ ∀ z, z ∈ R ↔ z ∈ L ∨ z = X
theorem strict_at {L : List (List Int)} (h : Strict L) {i j : Nat} (hij : i < j) (hj : j < L.length) : cmpL (L.getD i []) (L.getD j []) < 0 := by
  rw [List.getD_eq_getElem?_getD, List.getElem?_eq_getElem (by omega), List.getD_eq_getElem?_getD, List.getElem?_eq_getElem hj]
  exact List.pairwise_iff_getElem.1 h i j (by omega) hj hij
theorem putR_new {L : List (List Int)} {X : List Int} (h : Strict L) {k : Nat} (hk : k ≤ L.length) (h1 : ∀ i, i < k → cmpL (L.getD i []) X < 0) (h2 : ∀ i, k ≤ i → i < L.length → 0 ≤ cmpL (L.getD i []) X) (h3 : k < L.length → L.getD k [] ≠ X) : PutR L X (L.take k ++ [X] ++ L.drop k) := by
  have gd : ∀ i (hi : i < L.length), L[i] = L.getD i [] := fun i hi => by rw [List.getD_eq_getElem?_getD, List.getElem?_eq_getElem hi]; rfl
  have a1 : ∀ z, z ∈ L.take k → cmpL z X < 0 := fun z hz => by
    obtain ⟨i, hi, rfl⟩ := List.getElem_of_mem hz
    rw [List.length_take] at hi
    rw [List.getElem_take, gd i (by omega)]
    exact h1 i (by omega)
  have a2 : ∀ z, z ∈ L.drop k → cmpL X z < 0 := fun z hz => by
    obtain ⟨i, hi, rfl⟩ := List.getElem_of_mem hz
    rw [List.length_drop] at hi
    rw [List.getElem_drop, gd _ (by omega)]
    have n1 := h2 (k + i) (by omega) (by omega)
    have n2 : L.getD (k + i) [] ≠ X := fun e => by
      by_cases c : i = 0
      · subst c; exact h3 (by omega) e
      · have := strict_at h (show k < k + i by omega) (by omega)
        rw [e] at this
        have := h2 k (Nat.le_refl _) (by omega); omega
    have n3 : cmpL (L.getD (k + i) []) X ≠ 0 := fun e => n2 (cmpL_eq e)
    rw [cmpL_swap (L.getD (k + i) []) X]; omega
  refine ⟨?_, fun z => ?_⟩
  · unfold Strict
    rw [List.append_assoc, List.pairwise_append]
    refine ⟨List.Pairwise.sublist (List.take_sublist _ _) h, ?_, fun a ha b hb => ?_⟩
    · rw [List.singleton_append, List.pairwise_cons]
      exact ⟨a2, List.Pairwise.sublist (List.drop_sublist _ _) h⟩
    · rw [List.singleton_append, List.mem_cons] at hb
      rcases hb with rfl | hb
      · exact a1 a ha
      · exact cmpL_trans (a1 a ha) (a2 b hb)
  · have e : z ∈ L ↔ z ∈ L.take k ∨ z ∈ L.drop k := by rw [← List.mem_append, List.take_append_drop]
    rw [e, List.append_assoc, List.mem_append, List.mem_append, List.mem_singleton]
    exact ⟨fun h => h.elim (fun h => .inl (.inl h)) fun h => h.elim .inr fun h => .inl (.inr h), fun h => h.elim (fun h => h.elim .inl fun h => .inr (.inr h)) fun h => .inr (.inl h)⟩
theorem src_lit {w : World} {b : Nat} {x : Value} {t : TypeId} {fr : Nat × Nat} (h : w.heap[b]? = some (.cells #[x] t fr)) : Src w (.slice (some ⟨b, 0, none⟩) 1 1) 1 1 [x] := by
  refine ⟨rfl, .inr ⟨⟨b, 0, none⟩, 1, rfl, fun j y hj => ?_⟩⟩
  rcases j with _ | j
  · obtain rfl : x = y := by simpa using hj
    rw [Addr.add_lit]
    exact aCell h 0 rfl
  · simp at hj
theorem put_end {w wd : World} {L : List (List Int)} {X : List Int} {lo n N : Nat} {vs : List Value} {u x : Value} (h : wd.ownsRow w.heap.size 23 1 u N ([] ++ vs.take lo ++ [x] ++ vs.drop lo)) (hb : Below w.heap.size w wd) (hl : vs.length = L.length) (hI : ∀ i (h : i < L.length) (h' : i < vs.length), Ints w vs[i] L[i]) (hx : Ints w x X) (hP : PutR L X (L.take lo ++ [X] ++ L.drop lo)) (hn : n = L.length) :
    ∃ a m k, Ending.returned u = .returned (.slice a m k) ∧ (∃ R, Rows wd (.slice a m k) R ∧ PutR L X R) ∧ Below w.heap.size w wd := by
  have hps1 : (vs.zip L).map (·.1) = vs := List.map_fst_zip (by omega)
  have hps2 : (vs.zip L).map (·.2) = L := List.map_snd_zip (by omega)
  have hR := owns_rd h
  obtain ⟨a, m, k, rfl⟩ : ∃ a m k, u = .slice a m k := by
    obtain ⟨_, _, a, b, off, cap, e, _⟩ := hR
    exact ⟨_, _, _, e⟩
  refine ⟨a, m, k, rfl, ⟨_, ?_, hP⟩, hb⟩
  have e1 : [] ++ vs.take lo ++ [x] ++ vs.drop lo = ((vs.zip L).take lo ++ [(x, X)] ++ (vs.zip L).drop lo).map (·.1) := by
    rw [List.map_append, List.map_append, List.map_take, List.map_drop, hps1]; rfl
  have e2 : L.take lo ++ [X] ++ L.drop lo = ((vs.zip L).take lo ++ [(x, X)] ++ (vs.zip L).drop lo).map (·.2) := by
    rw [List.map_append, List.map_append, List.map_take, List.map_drop, hps2]; rfl
  rw [e1] at hR
  rw [e2]
  refine rows_of (by have := hR.1; rw [List.length_map] at this; omega) hR fun p hp => ?_
  have hz : ∀ p, p ∈ vs.zip L → Ints wd p.1 p.2 := fun p hp => by
    obtain ⟨i, hi, rfl⟩ := List.getElem_of_mem hp
    rw [List.length_zip] at hi
    rw [List.getElem_zip]
    exact (hI i (by omega) (by omega)).keep hb
  rcases List.mem_append.1 hp with hp | hp
  · rcases List.mem_append.1 hp with hp | hp
    · exact hz p (List.mem_of_mem_take hp)
    · rw [List.mem_singleton.1 hp]; exact hx.keep hb
  · exact hz p (List.mem_of_mem_drop hp)
set_option maxRecDepth 100000 in
set_option maxHeartbeats 16000000 in
theorem put_any (L : List (List Int)) (X : List Int) (hs : Strict L) (hl : L.length ≤ 1000000) (u v : Value) (w : World) (hu : Rows w u L) (hv : Ints w v X) :
    Calls Try.prog 81 #[u, v] w fun e w' => ∃ a n k, e = .returned (.slice a n k) ∧ (∃ R, Rows w' (.slice a n k) R ∧ PutR L X R) ∧ Below w.heap.size w w' := by
  have HRows := Lib.hid hu
  obtain ⟨a, b, off, cap, vs, rfl, hle, hia, hvs, hcs, hrs⟩ := hu.get
  have Hix := Lib.hid (run_ix (P := Try.prog) (t := 140) (a := a) (len := L.length) (cap := cap) (b := b) (off := off) (s := 1) Try.underlying140 (by intro w; kernel_rfl) hia)
  simp only [Nat.mul_one] at Hix
  have Hc := Lib.hid (show ∀ i, i < L.length → w.cell? ⟨b, off + i, none⟩ = some (vs.getD i (.bool false)) ∧ Ints w (vs.getD i (.bool false)) (L.getD i []) from fun i hi => by
    rw [List.getD_eq_getElem?_getD, List.getElem?_eq_getElem (by omega : i < vs.length), List.getD_eq_getElem?_getD, List.getElem?_eq_getElem hi]
    exact ⟨hcs i (by omega), hrs i hi (by omega)⟩)
  obtain ⟨xa, xc, rfl⟩ := ints_slice hv
  obtain ⟨xn, hxn⟩ : ∃ x, x = X.length := ⟨_, rfl⟩
  rw [← hxn] at hv ⊢
  have HX := Lib.hid hv
  have Hs := Lib.hid hs
  obtain ⟨n, hn⟩ : ∃ x, x = L.length := ⟨_, rfl⟩
  have Hn := Lib.hid hn
  rw [← hn] at Hix Hc HRows hl ⊢
  clear hu hv hxn hs hn hia hvs hcs hrs hle
  go_enter Try.func81, Try.ntmps81
  go_wp2_with fail
  go_loopw [5, 6] (fun vl vh wr => ∃ lo hi : Nat, vl = .int .i64 lo ∧ vh = .int .i64 hi ∧ lo ≤ hi ∧ hi ≤ n ∧ wr = w ∧ (∀ i, i < lo → cmpL (L.getD i []) X < 0) ∧ ∀ i, hi ≤ i → i < n → 0 ≤ cmpL (L.getD i []) X) (fun vl vh _ => (intOf vh).toNat - (intOf vl).toNat)
  case atStart => exact ⟨0, n, rfl, rfl, Nat.zero_le _, Nat.le_refl _, rfl, fun i hi => by omega, fun i h1 h2 => by omega⟩
  case round =>
    obtain ⟨lo, hi, rfl, rfl, hlh, hhn, rfl, hlo, hhi⟩ := hrel
    have Hlo := Lib.hid hlo
    have Hhi := Lib.hid hhi
    clear hlo hhi
    by_cases hlt : lo < hi
    · obtain ⟨s, hs⟩ : ∃ s, s = lo + hi := ⟨_, rfl⟩
      obtain ⟨m, hm⟩ : ∃ m, m = s / 2 := ⟨_, rfl⟩
      have hadd : IntKind.i64.wrap ((lo : Int) + hi) = (s : Int) := by rw [show (lo : Int) + hi = (s : Int) by omega]; exact IntWalk.i64_in _ ⟨by omega, by omega⟩
      have hq : (s : Int).tdiv 2 = (m : Int) := by rw [Int.tdiv_eq_ediv_of_nonneg (by omega)]; omega
      have hwm : IntKind.i64.wrap (m : Int) = (m : Int) := IntWalk.i64_in _ ⟨by omega, by omega⟩
      have hw1 : IntKind.i64.wrap ((m : Int) + 1) = (m : Int) + 1 := IntWalk.i64_in _ ⟨by omega, by omega⟩
      have Hm := Lib.hid (show lo ≤ m ∧ m < hi from ⟨by omega, by omega⟩)
      have hck := (Hc.out m (by omega)).1
      have Hik := Lib.hid (Hc.out m (by omega)).2
      have hixm := Hix.out m
      have hmn : m < n := by omega
      clear hs hm
      obtain ⟨Y, hY⟩ : ∃ x, x = L.getD m [] := ⟨_, rfl⟩
      have HY := Lib.hid hY
      rw [← hY] at Hik
      obtain ⟨ya, yc, hys⟩ := ints_slice Hik.out
      rw [hys] at hck Hik
      obtain ⟨yn, hyn⟩ : ∃ x, x = Y.length := ⟨_, rfl⟩
      rw [← hyn] at hck Hik
      clear hys hY hyn
      go_wp2_with fail
      refine (before_any Y X _ _ _ Hik.out HX.out).mono ?_
      rintro e w1 ⟨rfl, rfl⟩
      by_cases hb : cmpL Y X < 0
      · rw [decide_eq_true hb]
        have HR := Lib.hid (show ∀ i, i < m + 1 → cmpL (L.getD i []) X < 0 from fun i hi => by
          rcases Nat.lt_or_ge i m with h | h
          · exact cmpL_trans (strict_at Hs.out h (by rw [← Hn.out]; exact hmn)) (by rw [← HY.out]; exact hb)
          · rw [show i = m by omega, ← HY.out]; exact hb)
        clear hck hb
        go_wp2_with fail
        go_roundw
        case rel => exact ⟨m + 1, hi, by go_num, rfl, by have := Hm.out; omega, hhn, by first | rfl | trivial, HR.out, Hhi.out⟩
        case measure => have := Hm.out; simp [intOf]; omega
      · rw [decide_eq_false hb]
        have HR := Lib.hid (show ∀ i, m ≤ i → i < n → 0 ≤ cmpL (L.getD i []) X from fun i h1 h2 => Int.not_lt.1 fun h3 => by
          rcases Nat.lt_or_ge m i with h | h
          · exact hb (by rw [HY.out]; exact cmpL_trans (strict_at Hs.out h (by rw [← Hn.out]; exact h2)) h3)
          · rw [show i = m by omega, ← HY.out] at h3; exact hb h3)
        clear hck hb
        go_wp2_with fail
        go_roundw
        case rel => exact ⟨lo, m, rfl, rfl, Hm.out.1, by omega, by first | rfl | trivial, Hlo.out, HR.out⟩
        case measure => have := Hm.out; simp [intOf]; omega
    · obtain rfl : lo = hi := by omega
      by_cases hn : lo < n
      · have hck := (Hc.out lo hn).1
        have Hik := Lib.hid (Hc.out lo hn).2
        have hixm := Hix.out lo
        obtain ⟨Y, hY⟩ : ∃ x, x = L.getD lo [] := ⟨_, rfl⟩
        have HY := Lib.hid hY
        rw [← hY] at Hik
        obtain ⟨ya, yc, hys⟩ := ints_slice Hik.out
        rw [hys] at hck Hik
        obtain ⟨yn, hyn⟩ : ∃ x, x = Y.length := ⟨_, rfl⟩
        rw [← hyn] at hck Hik
        clear hys hY hyn
        go_wp2_with fail
        refine (equalQ_any Y X _ _ _ Hik.out HX.out).mono ?_
        rintro e w1 ⟨rfl, rfl⟩
        by_cases he : Y = X
        · rw [decide_eq_true he]
          go_wp2_with fail
          go_ret
          exact ⟨a, n, cap, rfl, ⟨L, by have := HRows.out; exact this, Hs.out, fun z => ⟨.inl, fun h => h.elim id fun e => by rw [e, ← he, HY.out, List.getD_eq_getElem?_getD, List.getElem?_eq_getElem (by rw [← Hn.out]; exact hn)]; exact List.getElem_mem _⟩⟩, Below.refl _ _⟩
        · rw [decide_eq_false he]
          have HP := Lib.hid (putR_new Hs.out (k := lo) (by rw [← Hn.out]; omega) Hlo.out (fun i h1 h2 => Hhi.out i h1 (by rw [Hn.out]; exact h2)) (fun _ => by rw [← HY.out]; exact he))
          clear hck hixm he Hik HY
          go_upto_region 9 with fail
          obtain ⟨vs, hl, hRd, hI⟩ := HRows.out
          have HI := Lib.hid hI
          have Hvl := Lib.hid hl
          rw [← Hn.out] at hRd
          obtain ⟨u1, hp1, hs1⟩ := part_to (P := Try.prog) (t := 140) (k := lo) Try.underlying140 (by intro w; kernel_rfl) hRd hhn
          obtain ⟨u2, hp2, hs2⟩ := part_from (P := Try.prog) (t := 140) (k := lo) Try.underlying140 (by intro w; kernel_rfl) hRd hhn
          simp only [Nat.mul_one] at hs1 hs2
          have HS1 := Lib.hid hs1
          have HS2 := Lib.hid hs2
          have HO1 := Lib.hid (show ∀ u, u ∈ vs → u.oneCell' = true from fun u hu => by
            obtain ⟨i, hi, rfl⟩ := List.getElem_of_mem hu
            obtain ⟨_, _, h⟩ := ints_slice (hI i (by omega) hi)
            rw [h]; rfl)
          have HW0 := Lib.hid (show Below wr.heap.size wr wr.drew from (Below.refl _ _).drew)
          have HS0 := Lib.hid (trivial : True)
          clear hs1 hs2 hl hRd hI
          refine wp_region_held (S := fun _ => True) wideK ?_
          change wpAnyH _ _ _ _ _ _ _ _ (World.drew _)
          generalize wr.drew = wd0 at *
          refine wpAnyH_take (i := 1) (v := ?_) rfl (by kernel_rfl) (by kernel_rfl) (by kernel_rfl) (fun _ _ _ h => h) (Or.inl ⟨by rfl, ?_⟩) HS0.out ?_
          rotate_left
          focus (intro w hS; clear hS; first | (go_simp; done) | (go_simp; with_reducible rfl))
          simp only [Act.put, List.getElem_toArray, List.getElem_cons_zero, List.getElem_cons_succ, List.setIfInBounds_toArray, List.set_cons_zero, List.set_cons_succ]
          refine wpAnyH_take (i := 2) (v := ?_) rfl (by kernel_rfl) (by kernel_rfl) (by kernel_rfl) (fun _ _ _ h => h) (Or.inl ⟨by rfl, ?_⟩) HS0.out ?_
          rotate_left
          focus (intro w hS; clear hS; first | (go_simp; done) | (go_simp; with_reducible rfl))
          simp only [Act.put, List.getElem_toArray, List.getElem_cons_zero, List.getElem_cons_succ, List.setIfInBounds_toArray, List.set_cons_zero, List.set_cons_succ]
          refine wpAnyH_take (i := 3) (v := ?_) rfl (by kernel_rfl) (by kernel_rfl) (by kernel_rfl) (fun _ _ _ h => h) (Or.inl ⟨by rfl, ?_⟩) HS0.out ?_
          rotate_left
          focus (intro w hS; clear hS; first | (go_simp; done) | (go_simp; with_reducible rfl))
          simp only [Act.put, List.getElem_toArray, List.getElem_cons_zero, List.getElem_cons_succ, List.setIfInBounds_toArray, List.set_cons_zero, List.set_cons_succ]
          refine wpAnyH_take (i := 5) (v := ?_) rfl (by kernel_rfl) (by kernel_rfl) (by kernel_rfl) (fun _ _ _ h => h) (Or.inl ⟨by rfl, ?_⟩) HS0.out ?_
          rotate_left
          focus (intro w hS; clear hS; first | (go_simp; done) | (go_simp; with_reducible rfl))
          simp only [Act.put, List.getElem_toArray, List.getElem_cons_zero, List.getElem_cons_succ, List.setIfInBounds_toArray, List.set_cons_zero, List.set_cons_succ]
          refine wpAnyH_take (i := 8) (v := ?_) rfl (by kernel_rfl) (by kernel_rfl) (by kernel_rfl) (fun _ _ _ h => h) (Or.inl ⟨by rfl, ?_⟩) HS0.out ?_
          rotate_left
          focus (intro w hS; clear hS; first | (go_simp; done) | (go_simp; with_reducible rfl))
          simp only [Act.put, List.getElem_toArray, List.getElem_cons_zero, List.getElem_cons_succ, List.setIfInBounds_toArray, List.set_cons_zero, List.set_cons_succ]
          refine wpAnyH_take (i := 9) (v := ?_) rfl (by kernel_rfl) (by kernel_rfl) (by kernel_rfl) (fun _ _ _ h => h) (Or.inl ⟨by rfl, ?_⟩) HS0.out ?_
          rotate_left
          focus (intro w hS; clear hS; first | (go_simp; done) | (go_simp; with_reducible rfl))
          simp only [Act.put, List.getElem_toArray, List.getElem_cons_zero, List.getElem_cons_succ, List.setIfInBounds_toArray, List.set_cons_zero, List.set_cons_succ]
          refine wpAnyH_take (i := 10) (v := ?_) rfl (by kernel_rfl) (by kernel_rfl) (by kernel_rfl) (fun _ _ _ h => h) (Or.inl ⟨by rfl, ?_⟩) HS0.out ?_
          rotate_left
          focus (intro w hS; clear hS; first | (go_simp; done) | (go_simp; with_reducible rfl))
          simp only [Act.put, List.getElem_toArray, List.getElem_cons_zero, List.getElem_cons_succ, List.setIfInBounds_toArray, List.set_cons_zero, List.set_cons_succ]
          refine wpAnyH_ready (rs := [0, 6]) (by kernel_rfl) (by simp) ?_
          refine RdyH.cons rfl (fun K2 hK => ?_) ?_
          · obtain ⟨wd1, hwd⟩ : ∃ x, x = wd0.alloc (.cells #[] 23) := ⟨_, rfl⟩
            have hb : Below wd0.heap.size wd0 wd1 := by rw [hwd]; exact below_alloc _ _
            obtain ⟨g0, hg0⟩ : ∃ x, x = wd0.heap.size := ⟨_, rfl⟩
            have HR := Lib.hid (show wd1.ownsRow wr.heap.size 23 1 (.slice (some ⟨g0, 0, none⟩) 0 0) 0 [] from by
              rw [hwd, hg0]; exact World.ownsRow_lit wd0 #[] 0 HW0.out.size (by unfold maxLen; omega) rfl)
            have HW1 := Lib.hid (Below.tr HW0.out hb)
            go_simp
            rw [← hwd, ← hg0]
            clear hb hwd hg0
            refine hK _ _ trivial ?_
            clear hK K2
            refine wpAnyH_ready (rs := [4, 6]) (by kernel_rfl) (by simp) ?_
            refine RdyH.cons rfl (fun K2 hK => ?_) ?_
            · refine step_append_src rfl (.tmp 39) (.tmp 42) 140 rfl elemRows rfl HR.out rfl (HS1.out.keep HW1.out) (fun u hu => HO1.out u (List.mem_of_mem_take hu)) (by omega) HW1.out.size ?_
              intro v1 wd2 h1 h2 hg
              have HR' := Lib.hid h1
              have HW2 := Lib.hid (HW1.out.trans h2)
              clear HR h1 h2 hg
              have HR := HR'
              clear HR'
              go_simp
              refine hK _ _ trivial ?_
              clear hK K2
              refine wpAnyH_ready (rs := [6]) (by kernel_rfl) (by simp) ?_
              refine RdyH.cons rfl (fun K2 hK => ?_) RdyH.nil
              obtain ⟨wd3, hwd⟩ : ∃ x, x = wd2.alloc (.cells #[.slice xa xn xc] 23) := ⟨_, rfl⟩
              have hb : Below wd2.heap.size wd2 wd3 := by rw [hwd]; exact below_alloc _ _
              obtain ⟨lb, hlb⟩ : ∃ x, x = wd2.heap.size := ⟨_, rfl⟩
              have HL := Lib.hid (show wd3.heap[lb]? = some (.cells #[.slice xa xn xc] 23 (0, 0)) from by rw [hwd, hlb]; exact heap_alloc_new _ _)
              have HR := Lib.hid (owns_keep HR.out hb)
              have HW3 := Lib.hid (Below.tr HW2.out hb)
              go_simp
              rw [← hwd, ← hlb]
              clear hb hwd hlb
              refine hK _ _ trivial ?_
              clear hK K2
              refine wpAnyH_ready (rs := [7]) (by kernel_rfl) (by simp) ?_
              refine RdyH.cons rfl (fun K2 hK => ?_) RdyH.nil
              refine step_append_src rfl (.tmp 43) (.tmp 45) 140 rfl elemRows rfl HR.out rfl (src_lit HL.out) (fun u hu => by rw [List.mem_singleton.1 hu]; rfl) (by omega) HW3.out.size ?_
              intro v2 wd4 h1 h2 hg
              have HR' := Lib.hid h1
              have HW4 := Lib.hid (HW3.out.trans h2)
              clear HR h1 h2 hg
              have HR := HR'
              clear HR'
              go_simp
              refine hK _ _ trivial ?_
              clear hK K2
              refine wpAnyH_ready (rs := [11]) (by kernel_rfl) (by simp) ?_
              refine RdyH.cons rfl (fun K2 hK => ?_) RdyH.nil
              refine step_append_src rfl (.tmp 46) (.tmp 49) 140 rfl elemRows rfl HR.out rfl (HS2.out.keep HW4.out) (fun u hu => HO1.out u (List.mem_of_mem_drop hu)) (by omega) HW4.out.size ?_
              intro v3 wd5 h1 h2 hg
              have HR' := Lib.hid h1
              have HW5 := Lib.hid (HW4.out.trans h2)
              clear HR h1 h2 hg
              have HR := HR'
              clear HR'
              go_simp
              refine hK _ _ trivial ?_
              clear hK K2
              refine wpAnyH_take (i := 12) (v := ?_) rfl (by kernel_rfl) (by kernel_rfl) (by kernel_rfl) (fun _ _ _ h => h) (Or.inl ⟨by rfl, ?_⟩) HS0.out ?_
              rotate_left
              focus (intro w hS; clear hS; first | (go_simp; done) | (go_simp; with_reducible rfl))
              simp only [Act.put, List.getElem_toArray, List.getElem_cons_zero, List.getElem_cons_succ, List.setIfInBounds_toArray, List.set_cons_zero, List.set_cons_succ]
              refine wpAnyH_done (by kernel_rfl) ?_ _
              clear hp1 hp2
              go_wp2_with fail
              go_ret
              exact put_end HR.out HW5.out Hvl.out HI.out HX.out HP.out Hn.out
            · refine RdyH.cons rfl (fun K2 hK => ?_) RdyH.nil
              obtain ⟨wd2, hwd⟩ : ∃ x, x = wd1.alloc (.cells #[.slice xa xn xc] 23) := ⟨_, rfl⟩
              have hb : Below wd1.heap.size wd1 wd2 := by rw [hwd]; exact below_alloc _ _
              obtain ⟨lb, hlb⟩ : ∃ x, x = wd1.heap.size := ⟨_, rfl⟩
              have HL := Lib.hid (show wd2.heap[lb]? = some (.cells #[.slice xa xn xc] 23 (0, 0)) from by rw [hwd, hlb]; exact heap_alloc_new _ _)
              have Hne := Lib.hid (show lb ≠ g0 from by rw [hlb]; exact Nat.ne_of_gt (own_lt HR.out rfl).2)
              have HR := Lib.hid (owns_keep HR.out hb)
              have HW2 := Lib.hid (Below.tr HW1.out hb)
              go_simp
              rw [← hwd, ← hlb]
              clear hb hwd hlb
              refine hK _ _ trivial ?_
              clear hK K2
              refine wpAnyH_ready (rs := [4]) (by kernel_rfl) (by simp) ?_
              refine RdyH.cons rfl (fun K2 hK => ?_) RdyH.nil
              refine step_append_src rfl (.tmp 39) (.tmp 42) 140 rfl elemRows rfl HR.out rfl (HS1.out.keep HW2.out) (fun u hu => HO1.out u (List.mem_of_mem_take hu)) (by omega) HW2.out.size ?_
              intro v1 wd3 h1 h2 hg
              have HR' := Lib.hid h1
              have HL := Lib.hid ((hg.block lb (Array.getElem?_eq_some_iff.1 HL.out).1 (fun e => Hne.out (Option.some.inj e))).trans HL.out)
              have HW3 := Lib.hid (HW2.out.trans h2)
              clear HR h1 h2 hg
              have HR := HR'
              clear HR'
              go_simp
              refine hK _ _ trivial ?_
              clear hK K2
              refine wpAnyH_ready (rs := [7]) (by kernel_rfl) (by simp) ?_
              refine RdyH.cons rfl (fun K2 hK => ?_) RdyH.nil
              refine step_append_src rfl (.tmp 43) (.tmp 45) 140 rfl elemRows rfl HR.out rfl (src_lit HL.out) (fun u hu => by rw [List.mem_singleton.1 hu]; rfl) (by omega) HW3.out.size ?_
              intro v2 wd4 h1 h2 hg
              have HR' := Lib.hid h1
              have HW4 := Lib.hid (HW3.out.trans h2)
              clear HR h1 h2 hg
              have HR := HR'
              clear HR'
              go_simp
              refine hK _ _ trivial ?_
              clear hK K2
              refine wpAnyH_ready (rs := [11]) (by kernel_rfl) (by simp) ?_
              refine RdyH.cons rfl (fun K2 hK => ?_) RdyH.nil
              refine step_append_src rfl (.tmp 46) (.tmp 49) 140 rfl elemRows rfl HR.out rfl (HS2.out.keep HW4.out) (fun u hu => HO1.out u (List.mem_of_mem_drop hu)) (by omega) HW4.out.size ?_
              intro v3 wd5 h1 h2 hg
              have HR' := Lib.hid h1
              have HW5 := Lib.hid (HW4.out.trans h2)
              clear HR h1 h2 hg
              have HR := HR'
              clear HR'
              go_simp
              refine hK _ _ trivial ?_
              clear hK K2
              refine wpAnyH_take (i := 12) (v := ?_) rfl (by kernel_rfl) (by kernel_rfl) (by kernel_rfl) (fun _ _ _ h => h) (Or.inl ⟨by rfl, ?_⟩) HS0.out ?_
              rotate_left
              focus (intro w hS; clear hS; first | (go_simp; done) | (go_simp; with_reducible rfl))
              simp only [Act.put, List.getElem_toArray, List.getElem_cons_zero, List.getElem_cons_succ, List.setIfInBounds_toArray, List.set_cons_zero, List.set_cons_succ]
              refine wpAnyH_done (by kernel_rfl) ?_ _
              clear hp1 hp2
              go_wp2_with fail
              go_ret
              exact put_end HR.out HW5.out Hvl.out HI.out HX.out HP.out Hn.out
          · refine RdyH.cons rfl (fun K2 hK => ?_) RdyH.nil
            obtain ⟨wd1, hwd⟩ : ∃ x, x = wd0.alloc (.cells #[.slice xa xn xc] 23) := ⟨_, rfl⟩
            have hb : Below wd0.heap.size wd0 wd1 := by rw [hwd]; exact below_alloc _ _
            obtain ⟨lb, hlb⟩ : ∃ x, x = wd0.heap.size := ⟨_, rfl⟩
            have HL := Lib.hid (show wd1.heap[lb]? = some (.cells #[.slice xa xn xc] 23 (0, 0)) from by rw [hwd, hlb]; exact heap_alloc_new _ _)
            have HW1 := Lib.hid (Below.tr HW0.out hb)
            go_simp
            rw [← hwd, ← hlb]
            clear hb hwd hlb
            refine hK _ _ trivial ?_
            clear hK K2
            refine wpAnyH_ready (rs := [0]) (by kernel_rfl) (by simp) ?_
            refine RdyH.cons rfl (fun K2 hK => ?_) RdyH.nil
            obtain ⟨wd2, hwd⟩ : ∃ x, x = wd1.alloc (.cells #[] 23) := ⟨_, rfl⟩
            have hb : Below wd1.heap.size wd1 wd2 := by rw [hwd]; exact below_alloc _ _
            obtain ⟨g0, hg0⟩ : ∃ x, x = wd1.heap.size := ⟨_, rfl⟩
            have HR := Lib.hid (show wd2.ownsRow wr.heap.size 23 1 (.slice (some ⟨g0, 0, none⟩) 0 0) 0 [] from by
              rw [hwd, hg0]; exact World.ownsRow_lit wd1 #[] 0 HW1.out.size (by unfold maxLen; omega) rfl)
            have Hne := Lib.hid (show lb ≠ g0 from by rw [hg0]; exact Nat.ne_of_lt (Array.getElem?_eq_some_iff.1 HL.out).1)
            have HL := Lib.hid (blk_keep2 HL.out hb)
            have HW2 := Lib.hid (Below.tr HW1.out hb)
            go_simp
            rw [← hwd, ← hg0]
            clear hb hwd hg0
            refine hK _ _ trivial ?_
            clear hK K2
            refine wpAnyH_ready (rs := [4]) (by kernel_rfl) (by simp) ?_
            refine RdyH.cons rfl (fun K2 hK => ?_) RdyH.nil
            refine step_append_src rfl (.tmp 39) (.tmp 42) 140 rfl elemRows rfl HR.out rfl (HS1.out.keep HW2.out) (fun u hu => HO1.out u (List.mem_of_mem_take hu)) (by omega) HW2.out.size ?_
            intro v1 wd3 h1 h2 hg
            have HR' := Lib.hid h1
            have HL := Lib.hid ((hg.block lb (Array.getElem?_eq_some_iff.1 HL.out).1 (fun e => Hne.out (Option.some.inj e))).trans HL.out)
            have HW3 := Lib.hid (HW2.out.trans h2)
            clear HR h1 h2 hg
            have HR := HR'
            clear HR'
            go_simp
            refine hK _ _ trivial ?_
            clear hK K2
            refine wpAnyH_ready (rs := [7]) (by kernel_rfl) (by simp) ?_
            refine RdyH.cons rfl (fun K2 hK => ?_) RdyH.nil
            refine step_append_src rfl (.tmp 43) (.tmp 45) 140 rfl elemRows rfl HR.out rfl (src_lit HL.out) (fun u hu => by rw [List.mem_singleton.1 hu]; rfl) (by omega) HW3.out.size ?_
            intro v2 wd4 h1 h2 hg
            have HR' := Lib.hid h1
            have HW4 := Lib.hid (HW3.out.trans h2)
            clear HR h1 h2 hg
            have HR := HR'
            clear HR'
            go_simp
            refine hK _ _ trivial ?_
            clear hK K2
            refine wpAnyH_ready (rs := [11]) (by kernel_rfl) (by simp) ?_
            refine RdyH.cons rfl (fun K2 hK => ?_) RdyH.nil
            refine step_append_src rfl (.tmp 46) (.tmp 49) 140 rfl elemRows rfl HR.out rfl (HS2.out.keep HW4.out) (fun u hu => HO1.out u (List.mem_of_mem_drop hu)) (by omega) HW4.out.size ?_
            intro v3 wd5 h1 h2 hg
            have HR' := Lib.hid h1
            have HW5 := Lib.hid (HW4.out.trans h2)
            clear HR h1 h2 hg
            have HR := HR'
            clear HR'
            go_simp
            refine hK _ _ trivial ?_
            clear hK K2
            refine wpAnyH_take (i := 12) (v := ?_) rfl (by kernel_rfl) (by kernel_rfl) (by kernel_rfl) (fun _ _ _ h => h) (Or.inl ⟨by rfl, ?_⟩) HS0.out ?_
            rotate_left
            focus (intro w hS; clear hS; first | (go_simp; done) | (go_simp; with_reducible rfl))
            simp only [Act.put, List.getElem_toArray, List.getElem_cons_zero, List.getElem_cons_succ, List.setIfInBounds_toArray, List.set_cons_zero, List.set_cons_succ]
            refine wpAnyH_done (by kernel_rfl) ?_ _
            clear hp1 hp2
            go_wp2_with fail
            go_ret
            exact put_end HR.out HW5.out Hvl.out HI.out HX.out HP.out Hn.out
      · have HP := Lib.hid (putR_new Hs.out (k := lo) (by rw [← Hn.out]; omega) Hlo.out (fun i h1 h2 => Hhi.out i h1 (by rw [Hn.out]; exact h2)) (fun h => by rw [← Hn.out] at h; exact absurd h hn))
        go_upto_region 9 with fail
        obtain ⟨vs, hl, hRd, hI⟩ := HRows.out
        have HI := Lib.hid hI
        have Hvl := Lib.hid hl
        rw [← Hn.out] at hRd
        obtain ⟨u1, hp1, hs1⟩ := part_to (P := Try.prog) (t := 140) (k := lo) Try.underlying140 (by intro w; kernel_rfl) hRd hhn
        obtain ⟨u2, hp2, hs2⟩ := part_from (P := Try.prog) (t := 140) (k := lo) Try.underlying140 (by intro w; kernel_rfl) hRd hhn
        simp only [Nat.mul_one] at hs1 hs2
        have HS1 := Lib.hid hs1
        have HS2 := Lib.hid hs2
        have HO1 := Lib.hid (show ∀ u, u ∈ vs → u.oneCell' = true from fun u hu => by
          obtain ⟨i, hi, rfl⟩ := List.getElem_of_mem hu
          obtain ⟨_, _, h⟩ := ints_slice (hI i (by omega) hi)
          rw [h]; rfl)
        have HW0 := Lib.hid (show Below wr.heap.size wr wr.drew from (Below.refl _ _).drew)
        have HS0 := Lib.hid (trivial : True)
        clear hs1 hs2 hl hRd hI
        refine wp_region_held (S := fun _ => True) wideK ?_
        change wpAnyH _ _ _ _ _ _ _ _ (World.drew _)
        generalize wr.drew = wd0 at *
        refine wpAnyH_take (i := 1) (v := ?_) rfl (by kernel_rfl) (by kernel_rfl) (by kernel_rfl) (fun _ _ _ h => h) (Or.inl ⟨by rfl, ?_⟩) HS0.out ?_
        rotate_left
        focus (intro w hS; clear hS; first | (go_simp; done) | (go_simp; with_reducible rfl))
        simp only [Act.put, List.getElem_toArray, List.getElem_cons_zero, List.getElem_cons_succ, List.setIfInBounds_toArray, List.set_cons_zero, List.set_cons_succ]
        refine wpAnyH_take (i := 2) (v := ?_) rfl (by kernel_rfl) (by kernel_rfl) (by kernel_rfl) (fun _ _ _ h => h) (Or.inl ⟨by rfl, ?_⟩) HS0.out ?_
        rotate_left
        focus (intro w hS; clear hS; first | (go_simp; done) | (go_simp; with_reducible rfl))
        simp only [Act.put, List.getElem_toArray, List.getElem_cons_zero, List.getElem_cons_succ, List.setIfInBounds_toArray, List.set_cons_zero, List.set_cons_succ]
        refine wpAnyH_take (i := 3) (v := ?_) rfl (by kernel_rfl) (by kernel_rfl) (by kernel_rfl) (fun _ _ _ h => h) (Or.inl ⟨by rfl, ?_⟩) HS0.out ?_
        rotate_left
        focus (intro w hS; clear hS; first | (go_simp; done) | (go_simp; with_reducible rfl))
        simp only [Act.put, List.getElem_toArray, List.getElem_cons_zero, List.getElem_cons_succ, List.setIfInBounds_toArray, List.set_cons_zero, List.set_cons_succ]
        refine wpAnyH_take (i := 5) (v := ?_) rfl (by kernel_rfl) (by kernel_rfl) (by kernel_rfl) (fun _ _ _ h => h) (Or.inl ⟨by rfl, ?_⟩) HS0.out ?_
        rotate_left
        focus (intro w hS; clear hS; first | (go_simp; done) | (go_simp; with_reducible rfl))
        simp only [Act.put, List.getElem_toArray, List.getElem_cons_zero, List.getElem_cons_succ, List.setIfInBounds_toArray, List.set_cons_zero, List.set_cons_succ]
        refine wpAnyH_take (i := 8) (v := ?_) rfl (by kernel_rfl) (by kernel_rfl) (by kernel_rfl) (fun _ _ _ h => h) (Or.inl ⟨by rfl, ?_⟩) HS0.out ?_
        rotate_left
        focus (intro w hS; clear hS; first | (go_simp; done) | (go_simp; with_reducible rfl))
        simp only [Act.put, List.getElem_toArray, List.getElem_cons_zero, List.getElem_cons_succ, List.setIfInBounds_toArray, List.set_cons_zero, List.set_cons_succ]
        refine wpAnyH_take (i := 9) (v := ?_) rfl (by kernel_rfl) (by kernel_rfl) (by kernel_rfl) (fun _ _ _ h => h) (Or.inl ⟨by rfl, ?_⟩) HS0.out ?_
        rotate_left
        focus (intro w hS; clear hS; first | (go_simp; done) | (go_simp; with_reducible rfl))
        simp only [Act.put, List.getElem_toArray, List.getElem_cons_zero, List.getElem_cons_succ, List.setIfInBounds_toArray, List.set_cons_zero, List.set_cons_succ]
        refine wpAnyH_take (i := 10) (v := ?_) rfl (by kernel_rfl) (by kernel_rfl) (by kernel_rfl) (fun _ _ _ h => h) (Or.inl ⟨by rfl, ?_⟩) HS0.out ?_
        rotate_left
        focus (intro w hS; clear hS; first | (go_simp; done) | (go_simp; with_reducible rfl))
        simp only [Act.put, List.getElem_toArray, List.getElem_cons_zero, List.getElem_cons_succ, List.setIfInBounds_toArray, List.set_cons_zero, List.set_cons_succ]
        refine wpAnyH_ready (rs := [0, 6]) (by kernel_rfl) (by simp) ?_
        refine RdyH.cons rfl (fun K2 hK => ?_) ?_
        · obtain ⟨wd1, hwd⟩ : ∃ x, x = wd0.alloc (.cells #[] 23) := ⟨_, rfl⟩
          have hb : Below wd0.heap.size wd0 wd1 := by rw [hwd]; exact below_alloc _ _
          obtain ⟨g0, hg0⟩ : ∃ x, x = wd0.heap.size := ⟨_, rfl⟩
          have HR := Lib.hid (show wd1.ownsRow wr.heap.size 23 1 (.slice (some ⟨g0, 0, none⟩) 0 0) 0 [] from by
            rw [hwd, hg0]; exact World.ownsRow_lit wd0 #[] 0 HW0.out.size (by unfold maxLen; omega) rfl)
          have HW1 := Lib.hid (Below.tr HW0.out hb)
          go_simp
          rw [← hwd, ← hg0]
          clear hb hwd hg0
          refine hK _ _ trivial ?_
          clear hK K2
          refine wpAnyH_ready (rs := [4, 6]) (by kernel_rfl) (by simp) ?_
          refine RdyH.cons rfl (fun K2 hK => ?_) ?_
          · refine step_append_src rfl (.tmp 39) (.tmp 42) 140 rfl elemRows rfl HR.out rfl (HS1.out.keep HW1.out) (fun u hu => HO1.out u (List.mem_of_mem_take hu)) (by omega) HW1.out.size ?_
            intro v1 wd2 h1 h2 hg
            have HR' := Lib.hid h1
            have HW2 := Lib.hid (HW1.out.trans h2)
            clear HR h1 h2 hg
            have HR := HR'
            clear HR'
            go_simp
            refine hK _ _ trivial ?_
            clear hK K2
            refine wpAnyH_ready (rs := [6]) (by kernel_rfl) (by simp) ?_
            refine RdyH.cons rfl (fun K2 hK => ?_) RdyH.nil
            obtain ⟨wd3, hwd⟩ : ∃ x, x = wd2.alloc (.cells #[.slice xa xn xc] 23) := ⟨_, rfl⟩
            have hb : Below wd2.heap.size wd2 wd3 := by rw [hwd]; exact below_alloc _ _
            obtain ⟨lb, hlb⟩ : ∃ x, x = wd2.heap.size := ⟨_, rfl⟩
            have HL := Lib.hid (show wd3.heap[lb]? = some (.cells #[.slice xa xn xc] 23 (0, 0)) from by rw [hwd, hlb]; exact heap_alloc_new _ _)
            have HR := Lib.hid (owns_keep HR.out hb)
            have HW3 := Lib.hid (Below.tr HW2.out hb)
            go_simp
            rw [← hwd, ← hlb]
            clear hb hwd hlb
            refine hK _ _ trivial ?_
            clear hK K2
            refine wpAnyH_ready (rs := [7]) (by kernel_rfl) (by simp) ?_
            refine RdyH.cons rfl (fun K2 hK => ?_) RdyH.nil
            refine step_append_src rfl (.tmp 43) (.tmp 45) 140 rfl elemRows rfl HR.out rfl (src_lit HL.out) (fun u hu => by rw [List.mem_singleton.1 hu]; rfl) (by omega) HW3.out.size ?_
            intro v2 wd4 h1 h2 hg
            have HR' := Lib.hid h1
            have HW4 := Lib.hid (HW3.out.trans h2)
            clear HR h1 h2 hg
            have HR := HR'
            clear HR'
            go_simp
            refine hK _ _ trivial ?_
            clear hK K2
            refine wpAnyH_ready (rs := [11]) (by kernel_rfl) (by simp) ?_
            refine RdyH.cons rfl (fun K2 hK => ?_) RdyH.nil
            refine step_append_src rfl (.tmp 46) (.tmp 49) 140 rfl elemRows rfl HR.out rfl (HS2.out.keep HW4.out) (fun u hu => HO1.out u (List.mem_of_mem_drop hu)) (by omega) HW4.out.size ?_
            intro v3 wd5 h1 h2 hg
            have HR' := Lib.hid h1
            have HW5 := Lib.hid (HW4.out.trans h2)
            clear HR h1 h2 hg
            have HR := HR'
            clear HR'
            go_simp
            refine hK _ _ trivial ?_
            clear hK K2
            refine wpAnyH_take (i := 12) (v := ?_) rfl (by kernel_rfl) (by kernel_rfl) (by kernel_rfl) (fun _ _ _ h => h) (Or.inl ⟨by rfl, ?_⟩) HS0.out ?_
            rotate_left
            focus (intro w hS; clear hS; first | (go_simp; done) | (go_simp; with_reducible rfl))
            simp only [Act.put, List.getElem_toArray, List.getElem_cons_zero, List.getElem_cons_succ, List.setIfInBounds_toArray, List.set_cons_zero, List.set_cons_succ]
            refine wpAnyH_done (by kernel_rfl) ?_ _
            clear hp1 hp2
            go_wp2_with fail
            go_ret
            exact put_end HR.out HW5.out Hvl.out HI.out HX.out HP.out Hn.out
          · refine RdyH.cons rfl (fun K2 hK => ?_) RdyH.nil
            obtain ⟨wd2, hwd⟩ : ∃ x, x = wd1.alloc (.cells #[.slice xa xn xc] 23) := ⟨_, rfl⟩
            have hb : Below wd1.heap.size wd1 wd2 := by rw [hwd]; exact below_alloc _ _
            obtain ⟨lb, hlb⟩ : ∃ x, x = wd1.heap.size := ⟨_, rfl⟩
            have HL := Lib.hid (show wd2.heap[lb]? = some (.cells #[.slice xa xn xc] 23 (0, 0)) from by rw [hwd, hlb]; exact heap_alloc_new _ _)
            have Hne := Lib.hid (show lb ≠ g0 from by rw [hlb]; exact Nat.ne_of_gt (own_lt HR.out rfl).2)
            have HR := Lib.hid (owns_keep HR.out hb)
            have HW2 := Lib.hid (Below.tr HW1.out hb)
            go_simp
            rw [← hwd, ← hlb]
            clear hb hwd hlb
            refine hK _ _ trivial ?_
            clear hK K2
            refine wpAnyH_ready (rs := [4]) (by kernel_rfl) (by simp) ?_
            refine RdyH.cons rfl (fun K2 hK => ?_) RdyH.nil
            refine step_append_src rfl (.tmp 39) (.tmp 42) 140 rfl elemRows rfl HR.out rfl (HS1.out.keep HW2.out) (fun u hu => HO1.out u (List.mem_of_mem_take hu)) (by omega) HW2.out.size ?_
            intro v1 wd3 h1 h2 hg
            have HR' := Lib.hid h1
            have HL := Lib.hid ((hg.block lb (Array.getElem?_eq_some_iff.1 HL.out).1 (fun e => Hne.out (Option.some.inj e))).trans HL.out)
            have HW3 := Lib.hid (HW2.out.trans h2)
            clear HR h1 h2 hg
            have HR := HR'
            clear HR'
            go_simp
            refine hK _ _ trivial ?_
            clear hK K2
            refine wpAnyH_ready (rs := [7]) (by kernel_rfl) (by simp) ?_
            refine RdyH.cons rfl (fun K2 hK => ?_) RdyH.nil
            refine step_append_src rfl (.tmp 43) (.tmp 45) 140 rfl elemRows rfl HR.out rfl (src_lit HL.out) (fun u hu => by rw [List.mem_singleton.1 hu]; rfl) (by omega) HW3.out.size ?_
            intro v2 wd4 h1 h2 hg
            have HR' := Lib.hid h1
            have HW4 := Lib.hid (HW3.out.trans h2)
            clear HR h1 h2 hg
            have HR := HR'
            clear HR'
            go_simp
            refine hK _ _ trivial ?_
            clear hK K2
            refine wpAnyH_ready (rs := [11]) (by kernel_rfl) (by simp) ?_
            refine RdyH.cons rfl (fun K2 hK => ?_) RdyH.nil
            refine step_append_src rfl (.tmp 46) (.tmp 49) 140 rfl elemRows rfl HR.out rfl (HS2.out.keep HW4.out) (fun u hu => HO1.out u (List.mem_of_mem_drop hu)) (by omega) HW4.out.size ?_
            intro v3 wd5 h1 h2 hg
            have HR' := Lib.hid h1
            have HW5 := Lib.hid (HW4.out.trans h2)
            clear HR h1 h2 hg
            have HR := HR'
            clear HR'
            go_simp
            refine hK _ _ trivial ?_
            clear hK K2
            refine wpAnyH_take (i := 12) (v := ?_) rfl (by kernel_rfl) (by kernel_rfl) (by kernel_rfl) (fun _ _ _ h => h) (Or.inl ⟨by rfl, ?_⟩) HS0.out ?_
            rotate_left
            focus (intro w hS; clear hS; first | (go_simp; done) | (go_simp; with_reducible rfl))
            simp only [Act.put, List.getElem_toArray, List.getElem_cons_zero, List.getElem_cons_succ, List.setIfInBounds_toArray, List.set_cons_zero, List.set_cons_succ]
            refine wpAnyH_done (by kernel_rfl) ?_ _
            clear hp1 hp2
            go_wp2_with fail
            go_ret
            exact put_end HR.out HW5.out Hvl.out HI.out HX.out HP.out Hn.out
        · refine RdyH.cons rfl (fun K2 hK => ?_) RdyH.nil
          obtain ⟨wd1, hwd⟩ : ∃ x, x = wd0.alloc (.cells #[.slice xa xn xc] 23) := ⟨_, rfl⟩
          have hb : Below wd0.heap.size wd0 wd1 := by rw [hwd]; exact below_alloc _ _
          obtain ⟨lb, hlb⟩ : ∃ x, x = wd0.heap.size := ⟨_, rfl⟩
          have HL := Lib.hid (show wd1.heap[lb]? = some (.cells #[.slice xa xn xc] 23 (0, 0)) from by rw [hwd, hlb]; exact heap_alloc_new _ _)
          have HW1 := Lib.hid (Below.tr HW0.out hb)
          go_simp
          rw [← hwd, ← hlb]
          clear hb hwd hlb
          refine hK _ _ trivial ?_
          clear hK K2
          refine wpAnyH_ready (rs := [0]) (by kernel_rfl) (by simp) ?_
          refine RdyH.cons rfl (fun K2 hK => ?_) RdyH.nil
          obtain ⟨wd2, hwd⟩ : ∃ x, x = wd1.alloc (.cells #[] 23) := ⟨_, rfl⟩
          have hb : Below wd1.heap.size wd1 wd2 := by rw [hwd]; exact below_alloc _ _
          obtain ⟨g0, hg0⟩ : ∃ x, x = wd1.heap.size := ⟨_, rfl⟩
          have HR := Lib.hid (show wd2.ownsRow wr.heap.size 23 1 (.slice (some ⟨g0, 0, none⟩) 0 0) 0 [] from by
            rw [hwd, hg0]; exact World.ownsRow_lit wd1 #[] 0 HW1.out.size (by unfold maxLen; omega) rfl)
          have Hne := Lib.hid (show lb ≠ g0 from by rw [hg0]; exact Nat.ne_of_lt (Array.getElem?_eq_some_iff.1 HL.out).1)
          have HL := Lib.hid (blk_keep2 HL.out hb)
          have HW2 := Lib.hid (Below.tr HW1.out hb)
          go_simp
          rw [← hwd, ← hg0]
          clear hb hwd hg0
          refine hK _ _ trivial ?_
          clear hK K2
          refine wpAnyH_ready (rs := [4]) (by kernel_rfl) (by simp) ?_
          refine RdyH.cons rfl (fun K2 hK => ?_) RdyH.nil
          refine step_append_src rfl (.tmp 39) (.tmp 42) 140 rfl elemRows rfl HR.out rfl (HS1.out.keep HW2.out) (fun u hu => HO1.out u (List.mem_of_mem_take hu)) (by omega) HW2.out.size ?_
          intro v1 wd3 h1 h2 hg
          have HR' := Lib.hid h1
          have HL := Lib.hid ((hg.block lb (Array.getElem?_eq_some_iff.1 HL.out).1 (fun e => Hne.out (Option.some.inj e))).trans HL.out)
          have HW3 := Lib.hid (HW2.out.trans h2)
          clear HR h1 h2 hg
          have HR := HR'
          clear HR'
          go_simp
          refine hK _ _ trivial ?_
          clear hK K2
          refine wpAnyH_ready (rs := [7]) (by kernel_rfl) (by simp) ?_
          refine RdyH.cons rfl (fun K2 hK => ?_) RdyH.nil
          refine step_append_src rfl (.tmp 43) (.tmp 45) 140 rfl elemRows rfl HR.out rfl (src_lit HL.out) (fun u hu => by rw [List.mem_singleton.1 hu]; rfl) (by omega) HW3.out.size ?_
          intro v2 wd4 h1 h2 hg
          have HR' := Lib.hid h1
          have HW4 := Lib.hid (HW3.out.trans h2)
          clear HR h1 h2 hg
          have HR := HR'
          clear HR'
          go_simp
          refine hK _ _ trivial ?_
          clear hK K2
          refine wpAnyH_ready (rs := [11]) (by kernel_rfl) (by simp) ?_
          refine RdyH.cons rfl (fun K2 hK => ?_) RdyH.nil
          refine step_append_src rfl (.tmp 46) (.tmp 49) 140 rfl elemRows rfl HR.out rfl (HS2.out.keep HW4.out) (fun u hu => HO1.out u (List.mem_of_mem_drop hu)) (by omega) HW4.out.size ?_
          intro v3 wd5 h1 h2 hg
          have HR' := Lib.hid h1
          have HW5 := Lib.hid (HW4.out.trans h2)
          clear HR h1 h2 hg
          have HR := HR'
          clear HR'
          go_simp
          refine hK _ _ trivial ?_
          clear hK K2
          refine wpAnyH_take (i := 12) (v := ?_) rfl (by kernel_rfl) (by kernel_rfl) (by kernel_rfl) (fun _ _ _ h => h) (Or.inl ⟨by rfl, ?_⟩) HS0.out ?_
          rotate_left
          focus (intro w hS; clear hS; first | (go_simp; done) | (go_simp; with_reducible rfl))
          simp only [Act.put, List.getElem_toArray, List.getElem_cons_zero, List.getElem_cons_succ, List.setIfInBounds_toArray, List.set_cons_zero, List.set_cons_succ]
          refine wpAnyH_done (by kernel_rfl) ?_ _
          clear hp1 hp2
          go_wp2_with fail
          go_ret
          exact put_end HR.out HW5.out Hvl.out HI.out HX.out HP.out Hn.out
#print axioms put_any
theorem append_srcL {P : Program} {ops : Array Oper} {rest : List Oper} {o : Oper} {a : Act} {Q : Exit → Act → World → Prop} {w : World} (hgd : o.guard = none) (s x : Operand) (t : TypeId)
    (ho : o.op = .call { callee := .builtin .append, args := #[s, x], argTypes := #[t, t] }) {e : TypeId} {size bytes : Nat} (he : Elem P t e size bytes)
    {base n : Nat} {v : Value} {xs : List Value} (hs : a.eval s = v) (hown : w.ownsRow base e size v n xs)
    {u : Value} {m : Nat} {news : List Value} (hx : a.eval x = u) (hu : Src w u size m news) (h1 : ∀ u ∈ news, u.oneCell' = true)
    (hn : n + m ≤ 100000000000) (hbase : base ≤ w.heap.size)
    (h : ∀ v' w', w'.ownsRow base e size v' (n + m) (xs ++ news) → Below base w w' → w.grownBy w' v.ownBlock → wpList P ops Q rest (a.put o.dst v') w') : wpList P ops Q (o :: rest) a w :=
  wpList_plain hgd fun _ hK => wp_append_src s x t ho he hs hown hx hu h1 hn hbase fun v' w' h5 h6 h7 => hK _ _ (h v' w' h5 h6 h7)
set_option maxRecDepth 100000 in
set_option maxHeartbeats 2000000 in
theorem key_any (r : Int) (A : List Int) (hA : A.length ≤ 1000000) (u : Value) (w : World) (hu : Ints w u A) :
    Calls Try.prog 82 #[.agg #[.int .i64 r, u]] w fun e w' => ∃ a n k, e = .returned (.slice a n k) ∧ OwnInts w.heap.size w' (.slice a n k) (r :: A) ∧ Below w.heap.size w w' := by
  obtain ⟨ua, uc, rfl⟩ := ints_slice hu
  obtain ⟨un, hun⟩ : ∃ x, x = A.length := ⟨_, rfl⟩
  have Hun := Lib.hid hun
  rw [← hun] at hu hA ⊢
  obtain ⟨w1, hw1⟩ : ∃ x, x = w.alloc (.cells #[.int .i64 r, .slice ua un uc] 50) := ⟨_, rfl⟩
  have hb1 : Below w.heap.size w w1 := by rw [hw1]; exact below_alloc _ _
  have HG := Lib.hid (show w1.heap[w.heap.size]? = some (.cells #[.int .i64 r, .slice ua un uc] 50 (0, 0)) from by rw [hw1]; exact heap_alloc_new _ _)
  obtain ⟨w2, hw2⟩ : ∃ x, x = w1.alloc (.cells #[.int .i64 r] 3) := ⟨_, rfl⟩
  have hb2 : Below w1.heap.size w1 w2 := by rw [hw2]; exact below_alloc _ _
  obtain ⟨g, hg⟩ : ∃ x, x = w1.heap.size := ⟨_, rfl⟩
  have HR := Lib.hid (show w2.ownsRow w.heap.size 3 1 (.slice (some ⟨g, 0, none⟩) 1 1) 1 [.int .i64 r] from by
    rw [hw2, hg]; exact World.ownsRow_lit w1 #[.int .i64 r] 1 hb1.size (by unfold maxLen; omega) rfl)
  have HU := Lib.hid ((hu.keep hb1).keep hb2)
  have Hb := Lib.hid (Below.tr hb1 hb2)
  obtain ⟨ob, hob⟩ : ∃ x, x = w.heap.size := ⟨_, rfl⟩
  rw [← hob] at HG
  have g0 := aCell HG.out 0 rfl
  have g1 := aCell HG.out 1 rfl
  have g1' : (w1.alloc (.cells #[.int .i64 r] 3)).cell? ⟨ob, 1, none⟩ = some (.slice ua un uc) := by rw [← hw2]; exact Below.keep hb2 g1
  have Hw1 := Lib.hid hw1
  have Hw2 := Lib.hid hw2
  have Hob := Lib.hid hob
  have Hg := Lib.hid hg
  clear hu hb1 hb2 hw1 hw2 hun hob hg HG
  go_enter Try.func82, Try.ntmps82
  go_upto_region 1 with fail
  rw [← Hw1.out, ← Hob.out]
  go_wp2_with (first | (at_builtin; rw [← Hw2.out, ← Hg.out]; refine append_srcL rfl (.tmp 5) (.tmp 7) 23 rfl elemInts rfl HR.out rfl (Rd.src HU.out) (ints_oneCell A) (by rw [← Hun.out]; omega) Hb.out.size ?_; intro v' w3 h1 h2 h3))
  have HO := Lib.hid (show OwnInts w.heap.size w3 v' (r :: A) from by
    unfold OwnInts
    rw [List.length_cons, Nat.add_comm]; exact h1)
  have HB := Lib.hid (Hb.out.trans h2)
  obtain ⟨va, vn, vk, rfl⟩ := own_slice HO.out
  clear h1 h2 h3
  go_wp2_with fail
  go_ret
  exact ⟨va, vn, vk, rfl, HO.out, HB.out⟩
#print axioms key_any
/-- the fact of a code of the reference -/
def unr (c : Nat) : RAt := if 6 ≤ c % 42 then (((c / 42 : Nat) : Int), [((c % 42 / 6 : Nat) : Int), ((c % 42 % 6 + 1 : Nat) : Int)]) else (((c / 42 : Nat) : Int), [((c % 42 + 1 : Nat) : Int)])
theorem unr_fc {c : Nat} (h : c < 252) : FcR (unr c) ∧ rcd (unr c) = (c : Int) := by
  unfold unr
  split
  · rename_i h6
    refine ⟨⟨⟨by simp only; omega, by simp only; omega⟩, ⟨by simp, by simp⟩, fun x hx => ?_⟩, ?_⟩
    · simp only [List.mem_cons, List.not_mem_nil, or_false] at hx
      rcases hx with rfl | rfl <;> omega
    · simp [rcd]; omega
  · rename_i h6
    refine ⟨⟨⟨by simp only; omega, by simp only; omega⟩, ⟨by simp, by simp⟩, fun x hx => ?_⟩, ?_⟩
    · simp only [List.mem_cons, List.not_mem_nil, or_false] at hx
      subst hx; omega
    · simp [rcd]; omega
theorem unr_rcd {f : RAt} (hf : FcR f) : unr (rcd f).toNat = f := by
  have hr := rcd_range hf
  obtain ⟨a, b⟩ := unr_fc (c := (rcd f).toNat) (by omega)
  exact rcd_inj a hf (by rw [b]; omega)
theorem quietB {w w' : World} {n : Nat} (h : w' = w.drewN n) : Below w.heap.size w w' := by rw [h]; exact ⟨rfl, rfl, rfl, Nat.le_refl _, fun _ _ => rfl⟩
set_option maxRecDepth 100000 in
set_option maxHeartbeats 4000000 in
theorem codeR_any (f : RAt) (hf : FcR f) (v : Value) (w : World) (hv : Ints w v f.2) :
    Calls Try.prog 91 #[.int .i64 f.1, v] w fun e w' => e = .returned (.int .i64 (rcd f)) ∧ ∃ n, w' = w.drewN n := by
  rcases fc_cases hf with ⟨r, x, rfl, hr, hx⟩ | ⟨r, x, y, rfl, hr, hx, hy⟩
  · simp only at hv ⊢
    obtain ⟨a, b, off, cap, rfl, hle, hia, hc⟩ := Ints.get hv
    have hc0 := hc 0 (by simp)
    simp only [Nat.add_zero] at hc0
    have ha : a = some ⟨b, off, none⟩ := hia (by simp)
    subst ha
    have e1 : IntKind.i64.wrap (r * 42) = r * 42 := w64 _ (by omega)
    have e2 : IntKind.i64.wrap (r * 42 + x) = r * 42 + x := w64 _ (by omega)
    have e3 : IntKind.i64.wrap (r * 42 + x - 1) = r * 42 + x - 1 := w64 _ (by omega)
    have R := Lib.hid (show r * 42 + x - 1 = rcd (r, [x]) from by simp [rcd])
    clear hv hc hia hle
    go_enter Try.func91, Try.ntmps91
    go_wp2_with fail
    go_ret
    exact ⟨by rw [← R.out]; rfl, 0, rfl⟩
  · simp only at hv ⊢
    obtain ⟨a, b, off, cap, rfl, hle, hia, hc⟩ := Ints.get hv
    have hc0 := hc 0 (by simp)
    simp only [Nat.add_zero] at hc0
    have hc1 := hc 1 (by simp)
    have ha : a = some ⟨b, off, none⟩ := hia (by simp)
    subst ha
    have e1 : IntKind.i64.wrap (r * 42) = r * 42 := w64 _ (by omega)
    have e2 : IntKind.i64.wrap (x * 6) = x * 6 := w64 _ (by omega)
    have e3 : IntKind.i64.wrap (r * 42 + x * 6) = r * 42 + x * 6 := w64 _ (by omega)
    have e4 : IntKind.i64.wrap (r * 42 + x * 6 + y) = r * 42 + x * 6 + y := w64 _ (by omega)
    have e5 : IntKind.i64.wrap (r * 42 + x * 6 + y - 1) = r * 42 + x * 6 + y - 1 := w64 _ (by omega)
    have R := Lib.hid (show r * 42 + x * 6 + y - 1 = rcd (r, [x, y]) from by simp [rcd])
    clear hv hc hia hle
    go_enter Try.func91, Try.ntmps91
    go_upto_region 3 with fail
    go_quiet (fail)
    generalize hwd : World.drewN _ _ = w2 at *
    have Hwd := Lib.hid hwd
    clear hwd
    go_wp2_with fail
    go_ret
    exact ⟨by rw [← R.out]; rfl, _, Hwd.out.symm⟩
#print axioms codeR_any
set_option maxRecDepth 100000 in
set_option maxHeartbeats 4000000 in
theorem FactR_any (c : Nat) (hc : c < 252) (w : World) :
    Calls Try.prog 83 #[.int .i64 (c : Int)] w fun e w' => ∃ a n k, e = .returned (.agg #[.int .i64 (unr c).1, .slice a n k]) ∧ OwnInts w.heap.size w' (.slice a n k) (unr c).2 ∧ Below w.heap.size w w' := by
  obtain ⟨w1, hw1⟩ : ∃ x, x = w.alloc (.cells #[.int .i64 0, .slice none 0 0] 50) := ⟨_, rfl⟩
  have hb1 : Below w.heap.size w w1 := by rw [hw1]; exact below_alloc _ _
  obtain ⟨B, hB⟩ : ∃ x, x = w.heap.size := ⟨_, rfl⟩
  have z1 : w1.heap.size = B + 1 := by rw [hB, hw1]; simp
  have g1 : w1.heap[B]? = some (.cells #[.int .i64 0, .slice none 0 0] 50 (0, 0)) := by rw [hB, hw1]; exact heap_alloc_new _ _
  have t1 : (c : Int).tmod 42 = ((c % 42 : Nat) : Int) := by rw [Int.tmod_eq_emod_of_nonneg (by omega)]; omega
  have t2 : (c : Int).tdiv 42 = ((c / 42 : Nat) : Int) := by rw [Int.tdiv_eq_ediv_of_nonneg (by omega)]; omega
  obtain ⟨q, hq⟩ : ∃ q, q = c / 42 := ⟨_, rfl⟩
  obtain ⟨m, hm⟩ : ∃ m, m = c % 42 := ⟨_, rfl⟩
  rw [← hm] at t1
  rw [← hq] at t2
  have t3 : (m : Int).tdiv 6 = ((m / 6 : Nat) : Int) := by rw [Int.tdiv_eq_ediv_of_nonneg (by omega)]; omega
  have t4 : (m : Int).tmod 6 = ((m % 6 : Nat) : Int) := by rw [Int.tmod_eq_emod_of_nonneg (by omega)]; omega
  have hq6 : q < 6 := by omega
  have hm42 : m < 42 := by omega
  have e1 : IntKind.i64.wrap (m : Int) = m := w64 _ (by omega)
  have e2 : IntKind.i64.wrap (q : Int) = q := w64 _ (by omega)
  have HU := Lib.hid (show unr c = if 6 ≤ m then ((q : Int), [((m / 6 : Nat) : Int), ((m % 6 : Nat) : Int) + 1]) else ((q : Int), [(m : Int) + 1]) from by unfold unr; rw [hq, hm]; rfl)
  have HB1 := Lib.hid hb1
  have Hw1 := Lib.hid hw1
  have HBe := Lib.hid hB
  have HG1 := Lib.hid g1
  have Hz1 := Lib.hid z1
  clear hb1 hw1 hB g1 z1 hq hm hc
  by_cases h6 : 6 ≤ m
  · have h6i : (m : Int) ≥ 6 := by omega
    rw [if_pos h6] at HU
    obtain ⟨x, hx⟩ : ∃ x, x = m / 6 := ⟨_, rfl⟩
    obtain ⟨y, hy⟩ : ∃ y, y = m % 6 := ⟨_, rfl⟩
    rw [← hx] at t3 HU
    rw [← hy] at t4 HU
    have e3 : IntKind.i64.wrap (x : Int) = x := w64 _ (by omega)
    have e4 : IntKind.i64.wrap (y : Int) = y := w64 _ (by omega)
    have e5 : IntKind.i64.wrap ((y : Int) + 1) = (y : Int) + 1 := w64 _ (by omega)
    clear hx hy h6
    obtain ⟨w2, hw2⟩ : ∃ q, q = w1.alloc (.cells #[.int .i64 (x : Int), .int .i64 ((y : Int) + 1)] 3) := ⟨_, rfl⟩
    have k2 : Below w1.heap.size w1 w2 := by rw [hw2]; exact below_alloc _ _
    have HO := Lib.hid (show OwnInts (B + 1) w2 (.slice (some ⟨B + 1, 0, none⟩) 2 2) [(x : Int), ((y : Int) + 1)] from by
      rw [hw2, ← Hz1.out]; exact World.ownsRow_lit w1 #[.int .i64 (x : Int), .int .i64 ((y : Int) + 1)] 2 (Nat.le_refl _) (by unfold maxLen; omega) rfl)
    have HG2 := Lib.hid (blk_keep2 HG1.out k2)
    have HB2 := Lib.hid (Below.tr HB1.out k2)
    have Hw2 := Lib.hid hw2
    clear hw2 k2
    go_enter Try.func83, Try.ntmps83
    go_upto_region 1 with fail
    rw [← Hw1.out, ← HBe.out]
    clear Hw1
    have r0 := aCell HG2.out 0 rfl
    have r1 := aCell HG2.out 1 rfl
    have f0 := frozen_of_row w2 _ 0 _ _ HG2.out
    have f1 := frozen_of_row w2 _ 1 _ _ HG2.out
    have HG := Lib.hid (setRow_heap w2 B _ #[.int .i64 (q : Int), .slice (some ⟨B + 1, 0, none⟩) 2 2] _ _ HG2.out)
    have HBB := Lib.hid (below_setRow (b := B) HB2.out (by rw [← HBe.out]; exact Nat.le_refl _) #[.int .i64 (q : Int), .slice (some ⟨B + 1, 0, none⟩) 2 2])
    have HOO := Lib.hid (show OwnInts w.heap.size (w2.setRow B #[.int .i64 (q : Int), .slice (some ⟨B + 1, 0, none⟩) 2 2]) (.slice (some ⟨B + 1, 0, none⟩) 2 2) [(x : Int), ((y : Int) + 1)] from by
      refine own_block (owns_mono HO.out (by rw [← HBe.out]; omega)) fun k hk => ?_
      have := (own_lt HO.out hk).1
      exact setRow_other w2 B k _ (by omega))
    go_wp2_with (first | (rw [← Hw2.out, Hz1.out]; clear Hw2; refine wpList_store_row rfl 50 (.tmp 2) (.tmp 16) rfl B #[.int .i64 (q : Int), .slice (some ⟨B + 1, 0, none⟩) 2 2] rfl rfl 50 _ HG2.out (by kernel_rfl) rfl (oneAt _) ?_))
    generalize w2.setRow B #[.int .i64 (q : Int), .slice (some ⟨B + 1, 0, none⟩) 2 2] = w9 at *
    go_wp2_with fail
    refine bodyPost_ret (results_cell_row Try.results83 _ _ B 50 _ (0, 0) _ rfl HG.out Try.underlying50 rfl (by kernel_rfl)) rfl ?_
    rw [HU.out]
    exact ⟨_, _, _, rfl, HOO.out, HBB.out⟩
  · have h6i : ¬ (m : Int) ≥ 6 := by omega
    rw [if_neg h6] at HU
    have e5 : IntKind.i64.wrap ((m : Int) + 1) = (m : Int) + 1 := w64 _ (by omega)
    clear h6 t3 t4
    obtain ⟨w2, hw2⟩ : ∃ q, q = w1.alloc (.cells #[.int .i64 ((m : Int) + 1)] 3) := ⟨_, rfl⟩
    have k2 : Below w1.heap.size w1 w2 := by rw [hw2]; exact below_alloc _ _
    have HO := Lib.hid (show OwnInts (B + 1) w2 (.slice (some ⟨B + 1, 0, none⟩) 1 1) [((m : Int) + 1)] from by
      rw [hw2, ← Hz1.out]; exact World.ownsRow_lit w1 #[.int .i64 ((m : Int) + 1)] 1 (Nat.le_refl _) (by unfold maxLen; omega) rfl)
    have HG2 := Lib.hid (blk_keep2 HG1.out k2)
    have HB2 := Lib.hid (Below.tr HB1.out k2)
    have Hw2 := Lib.hid hw2
    clear hw2 k2
    go_enter Try.func83, Try.ntmps83
    go_upto_region 1 with fail
    rw [← Hw1.out, ← HBe.out]
    clear Hw1
    have HG := Lib.hid (setRow_heap w2 B _ #[.int .i64 (q : Int), .slice (some ⟨B + 1, 0, none⟩) 1 1] _ _ HG2.out)
    have HBB := Lib.hid (below_setRow (b := B) HB2.out (by rw [← HBe.out]; exact Nat.le_refl _) #[.int .i64 (q : Int), .slice (some ⟨B + 1, 0, none⟩) 1 1])
    have HOO := Lib.hid (show OwnInts w.heap.size (w2.setRow B #[.int .i64 (q : Int), .slice (some ⟨B + 1, 0, none⟩) 1 1]) (.slice (some ⟨B + 1, 0, none⟩) 1 1) [((m : Int) + 1)] from by
      refine own_block (owns_mono HO.out (by rw [← HBe.out]; omega)) fun k hk => ?_
      have := (own_lt HO.out hk).1
      exact setRow_other w2 B k _ (by omega))
    go_wp2_with (first | (rw [← Hw2.out, Hz1.out]; clear Hw2; refine wpList_store_row rfl 50 (.tmp 2) (.tmp 23) rfl B #[.int .i64 (q : Int), .slice (some ⟨B + 1, 0, none⟩) 1 1] rfl rfl 50 _ HG2.out (by kernel_rfl) rfl (oneAt _) ?_))
    generalize w2.setRow B #[.int .i64 (q : Int), .slice (some ⟨B + 1, 0, none⟩) 1 1] = w9 at *
    go_wp2_with fail
    refine bodyPost_ret (results_cell_row Try.results83 _ _ B 50 _ (0, 0) _ rfl HG.out Try.underlying50 rfl (by kernel_rfl)) rfl ?_
    rw [HU.out]
    exact ⟨_, _, _, rfl, HOO.out, HBB.out⟩
#print axioms FactR_any
/-- a set of facts: 252 bools -/
def srow (b : Nat → Bool) : Array Value := ((List.range 252).map fun i => Value.bool (b i)).toArray
theorem srow_size (b : Nat → Bool) : (srow b).size = 252 := by simp [srow]
theorem srow_at {b : Nat → Bool} {i : Nat} (h : i < 252) : (srow b)[i]? = some (.bool (b i)) := by
  simp [srow, h]
theorem srow_one (b : Nat → Bool) : (srow b).all (·.oneCell') = true := by
  rw [Array.all_eq_true_iff_forall_mem]
  intro x hx
  simp only [srow, List.mem_toArray, List.mem_map] at hx
  obtain ⟨y, _, rfl⟩ := hx
  rfl
def bup (b : Nat → Bool) (i : Nat) (x : Bool) : Nat → Bool := fun j => if j = i then x else b j
theorem srow_set (b : Nat → Bool) (i : Nat) (x : Bool) : (srow b).setIfInBounds i (.bool x) = srow (bup b i x) := by
  apply Array.ext
  · simp [srow]
  · intro j h1 h2
    simp only [srow, bup, List.setIfInBounds_toArray, List.getElem_toArray, List.getElem_set, List.getElem_map, List.getElem_range]
    by_cases e : i = j
    · subst e; simp
    · rw [if_neg e, if_neg (fun q => e q.symm)]
theorem srow_congr {b c : Nat → Bool} (h : ∀ i, i < 252 → b i = c i) : srow b = srow c := by
  unfold srow
  congr 1
  exact List.map_congr_left fun i hi => by rw [h i (List.mem_range.1 hi)]
theorem zero_srow : Try.zeroCells44 = srow (fun _ => false) := by kernel_rfl
theorem undSet : Try.prog.underlying 44 = some (.array 252 4) := by kernel_rfl
theorem sizeSet : (Try.prog.info? 44).map (·.size) = some 252 := by kernel_rfl
theorem sizeSet2 (b : Nat → Bool) : (Try.prog.info? 44).map (·.size) = some (srow b).size := by rw [srow_size]; exact sizeSet
/-- a set in a block -/
def SetB (w : World) (g : Nat) (b : Nat → Bool) : Prop := w.heap[g]? = some (.cells (srow b) 44 (0, 0))
theorem SetB.keep {w w' : World} {g : Nat} {b : Nat → Bool} (h : SetB w g b) (hb : Below w.heap.size w w') : SetB w' g b := blk_keep2 h hb
theorem SetB.at {w : World} {g : Nat} {b : Nat → Bool} (h : SetB w g b) {i : Nat} (hi : i < 252) : w.cell? ⟨g, i, none⟩ = some (.bool (b i)) := aCell h i (srow_at hi)
theorem SetB.fz {w : World} {g : Nat} {b : Nat → Bool} (h : SetB w g b) (i : Nat) : w.frozen? ⟨g, i, none⟩ = false := frozen_of_row w g i _ _ h
theorem SetB.set {w : World} {g : Nat} {b : Nat → Bool} (h : SetB w g b) (i : Nat) (x : Bool) : SetB (w.setCell ⟨g, i, none⟩ (.bool x)) g (bup b i x) := by
  unfold SetB
  rw [heap_setCell_same w g i _ _ _ h, srow_set b i x]
theorem SetB.lt {w : World} {g : Nat} {b : Nat → Bool} (h : SetB w g b) : g < w.heap.size := (Array.getElem?_eq_some_iff.1 h).1
set_option maxRecDepth 100000 in
set_option maxHeartbeats 8000000 in
theorem givenR_any (m : List Int) (hm8 : m.length = 8) (a0 : RAt) (hat : AtR a0) (hf : FcR (gnd m a0)) (u : Value) (w : World) (hu : Ints w u a0.2) :
    Calls Try.prog 93 #[.agg #[.int .i64 a0.1, u], .agg (vrow m)] w fun e w' => e = .returned (.int .i64 (rcd (gnd m a0))) ∧ Below w.heap.size w w' := by
  obtain ⟨r, A⟩ := a0
  simp only at hu ⊢
  obtain ⟨a5, b5, off5, cap5, rfl, _, hia5, hc5⟩ := Ints.get hu
  obtain ⟨un, hun⟩ : ∃ x, x = A.length := ⟨_, rfl⟩
  have Hun := Lib.hid hun
  have hun2 : un ≤ 2 := by rw [hun]; exact hat.2.1.2
  have Hc5 := Lib.hid (show ∀ k, k < un → w.cell? ⟨b5, off5 + k, none⟩ = some (.int .i64 (A.getD k 0)) from fun k hk => by rw [hc5 k (by omega), List.getD_eq_getElem?_getD, List.getElem?_eq_getElem (by omega)]; rfl)
  rw [← hun] at hia5 ⊢
  have Hix5 := Lib.hid (run_ix (P := Try.prog) (t := 23) (a := a5) (len := un) (cap := cap5) (b := b5) (off := off5) (s := 1) Try.underlying23 (by intro w; kernel_rfl) hia5)
  simp only [Nat.mul_one] at Hix5
  have HR := Lib.hid (show ∀ t, t ∈ A → (-6 ≤ t ∧ t ≤ 7) ∧ 1 ≤ numOf m t ∧ numOf m t ≤ 6 from fun t ht => ⟨hat.2.2 t ht, hf.2.2 _ (List.mem_map.2 ⟨t, ht, rfl⟩)⟩)
  have Hf := Lib.hid hf
  obtain ⟨w1, hw1⟩ : ∃ x, x = w.alloc (.cells #[.int .i64 r, .slice a5 un cap5] 83) := ⟨_, rfl⟩
  obtain ⟨w2, hw2⟩ : ∃ x, x = w1.alloc (.cells (vrow m) 80) := ⟨_, rfl⟩
  have k1 : Below w.heap.size w w1 := by rw [hw1]; exact below_alloc _ _
  have k2 : Below w1.heap.size w1 w2 := by rw [hw2]; exact below_alloc _ _
  obtain ⟨B, hB⟩ : ∃ x, x = w.heap.size := ⟨_, rfl⟩
  have z1 : w1.heap.size = B + 1 := by rw [hB, hw1]; simp
  have z2 : w2.heap.size = B + 2 := by rw [hw2]; simp; omega
  have q1 : w1.heap[B]? = some (.cells #[.int .i64 r, .slice a5 un cap5] 83 (0, 0)) := by rw [hB, hw1]; exact heap_alloc_new _ _
  have q2 : w2.heap[B + 1]? = some (.cells (vrow m) 80 (0, 0)) := by rw [← z1, hw2]; exact heap_alloc_new _ _
  have HA2 := Lib.hid (blk_keep2 q1 k2)
  have HV := Lib.hid q2
  have HB2 := Lib.hid (Below.tr k1 k2)
  have Hz2 := Lib.hid z2
  have HBe := Lib.hid hB
  have Hw12 := Lib.hid (show w2 = (w.alloc (.cells #[.int .i64 r, .slice a5 un cap5] 83)).alloc (.cells (vrow m) 80) from by rw [hw2, hw1])
  have Hm8 := Lib.hid hm8
  clear hu hia5 hc5 hun hat hf hw1 hw2 k1 k2 hB z1 z2 q1 q2
  go_enter Try.func93, Try.ntmps93
  go_upto_region 2 with fail
  rw [← Hw12.out, ← HBe.out]
  clear Hw12
  have g1 := aCell HA2.out 1 rfl
  go_wp2_with fail
  clear g1
  go_loopw [5, 11] (fun vo vi wr => ∃ (j : Nat) (ya : Option Addr) (yn yk : Nat), vo = .slice ya yn yk ∧ vi = .int .i64 j ∧ j ≤ un ∧ Below w2.heap.size w2 wr ∧ OwnInts w2.heap.size wr (.slice ya yn yk) ((A.take j).map (numOf m))) (fun _ vi _ => un - (intOf vi).toNat)
  case atStart => exact ⟨0, none, 0, 0, rfl, rfl, Nat.zero_le _, Below.refl _ _, ownInts_nil _ _⟩
  case round =>
    generalize wr = wz at *
    obtain ⟨j, ya, yn, yk, rfl, rfl, hj, hb, ho⟩ := hrel
    have Hz := Lib.hid hb
    have HO := Lib.hid ho
    clear hb ho
    by_cases hlj : j < un
    · have hcl := Below.keep Hz.out (Below.keep HB2.out (Hc5.out j hlj))
      have hixj := Hix5.out j
      have hlj' : j < A.length := by rw [← Hun.out]; exact hlj
      have e : A.getD j 0 = A[j] := by rw [List.getD_eq_getElem?_getD, List.getElem?_eq_getElem hlj']; rfl
      have HTj := Lib.hid (show (A.take (j + 1)).map (numOf m) = (A.take j).map (numOf m) ++ [numOf m (A.getD j 0)] from by rw [List.take_succ_eq_append_getElem hlj', List.map_append, e]; rfl)
      have hr := HR.out (A.getD j 0) (by rw [e]; exact List.getElem_mem hlj')
      have hln : ((A.take j).map (numOf m)).length + 1 ≤ 100000000000 := by rw [List.length_map, List.length_take]; omega
      obtain ⟨t, ht⟩ : ∃ t, t = A.getD j 0 := ⟨_, rfl⟩
      rw [← ht] at hcl HTj hr
      clear ht e hlj'
      obtain ⟨Z, hZ⟩ : ∃ Z, Z = numOf m t := ⟨_, rfl⟩
      obtain ⟨w7, hw7⟩ : ∃ x, x = wz.alloc (.cells #[.int .i64 Z] 3) := ⟨_, rfl⟩
      have hb : Below wz.heap.size wz w7 := by rw [hw7]; exact below_alloc _ _
      obtain ⟨bl, hbl⟩ : ∃ x, x = wz.heap.size := ⟨_, rfl⟩
      have HL := Lib.hid (show w7.heap[bl]? = some (.cells #[.int .i64 Z] 3 (0, 0)) from by rw [hw7, hbl]; exact heap_alloc_new _ _)
      have HO7 := Lib.hid (HO.out.keep hb)
      have Hz7 := Lib.hid (Below.tr Hz.out hb)
      have Hw7 := Lib.hid hw7
      have Hbl := Lib.hid hbl
      clear hw7 hb hbl HO
      by_cases c : 0 ≤ t
      · obtain ⟨p, rfl⟩ : ∃ p : Nat, t = p := ⟨t.toNat, by omega⟩
        have hZe : numOf m (p : Int) = m.getD p 0 := by unfold numOf; rw [if_pos c, Int.toNat_natCast]
        have hp8 : (p : Int) < 8 := by omega
        have hn0 : ¬ (p : Int) < 0 := by omega
        have hcp := aCell (blk_keep2 HV.out Hz.out) p (vrow_at (by rw [Hm8.out]; omega))
        rw [← hZe, ← hZ] at hcp
        rw [← hZ] at HTj hr
        clear hZ hZe c
        go_wp2_with (first | (at_builtin; rw [← Hw7.out, ← Hbl.out]; refine append_own rfl (.tmp 22) (.tmp 26) 23 rfl elemInts rfl HO7.out (m := 1) [.int .i64 Z] rfl rfl (fun k y hk => aCell HL.out k (by simpa using hk)) (ints_oneCell [Z]) hln Hz7.out.size ?_; intro v9 w9 h91 h92 h93))
        obtain ⟨pa, pn, pk, rfl⟩ := row_slice h91
        have HO9 := Lib.hid (show OwnInts w2.heap.size w9 (.slice pa pn pk) ((A.take (j + 1)).map (numOf m)) from by rw [HTj.out]; exact OwnInts.snoc h91)
        have Hz9 := Lib.hid (show Below w2.heap.size w2 w9 from Hz7.out.trans h92)
        clear h91 h92 h93 hcp hcl hixj
        go_wp2_with fail
        go_roundw
        case rel => exact ⟨j + 1, pa, pn, pk, rfl, by go_num, by omega, Hz9.out, HO9.out⟩
        case measure => simp [intOf]; omega
      · have hn0 : t < 0 := by omega
        have hZe : Z = -t := by rw [hZ]; unfold numOf; rw [if_neg c]
        rw [← hZ] at HTj hr
        have hz1 : IntKind.i64.wrap (-t) = Z := by rw [← hZe]; exact w64 _ (by omega)
        clear hZ hZe c
        go_wp2_with (first | (at_builtin; rw [← Hw7.out, ← Hbl.out]; refine append_own rfl (.tmp 17) (.tmp 20) 23 rfl elemInts rfl HO7.out (m := 1) [.int .i64 Z] rfl rfl (fun k y hk => aCell HL.out k (by simpa using hk)) (ints_oneCell [Z]) hln Hz7.out.size ?_; intro v9 w9 h91 h92 h93))
        obtain ⟨pa, pn, pk, rfl⟩ := row_slice h91
        have HO9 := Lib.hid (show OwnInts w2.heap.size w9 (.slice pa pn pk) ((A.take (j + 1)).map (numOf m)) from by rw [HTj.out]; exact OwnInts.snoc h91)
        have Hz9 := Lib.hid (show Below w2.heap.size w2 w9 from Hz7.out.trans h92)
        clear h91 h92 h93 hcl hixj
        go_wp2_with fail
        go_roundw
        case rel => exact ⟨j + 1, pa, pn, pk, rfl, by go_num, by omega, Hz9.out, HO9.out⟩
        case measure => simp [intOf]; omega
    · obtain rfl : j = un := by omega
      have HX := Lib.hid (show OwnInts w2.heap.size wz (.slice ya yn yk) (gnd m (r, A)).2 from by
        have := HO.out
        rw [Hun.out, List.take_length] at this
        exact this)
      have HC := Lib.hid (codeR_any (gnd m (r, A)) Hf.out _ wz HX.out.ints)
      have Hw := Lib.hid (show Below w.heap.size w wz from Below.tr HB2.out Hz.out)
      have g0 := aCell (blk_keep2 HA2.out Hz.out) 0 rfl
      clear HO
      go_wp2_with fail
      refine HC.out.mono ?_
      rintro e w9 ⟨rfl, q, hq⟩
      have Hw9 := Lib.hid (Below.tr Hw.out (quietB hq))
      clear hq g0
      go_wp2_with fail
      go_ret
      exact ⟨rfl, Hw9.out⟩
#print axioms givenR_any
set_option maxRecDepth 100000 in
set_option maxHeartbeats 8000000 in
theorem OfR_any (l : List RAt) (hl : ∀ f, f ∈ l → FcR f) (v : Value) (w : World) (hv : Atoms w v l) :
    Calls Try.prog 77 #[v] w fun e w' => ∃ b : Nat → Bool, e = .returned (.agg (srow b)) ∧ (∀ c, c < 252 → (b c = true ↔ ∃ f, f ∈ l ∧ rcd f = (c : Int))) ∧ Below w.heap.size w w' := by
  obtain ⟨a, b5, off, cap, vs, rfl, hle, hia, _, hcs⟩ := Atoms.get hv
  obtain ⟨n, hn⟩ : ∃ x, x = l.length := ⟨_, rfl⟩
  have Hn := Lib.hid hn
  rw [← hn] at hle hia hcs ⊢
  have Hix := Lib.hid (run_ix (P := Try.prog) (t := 39) (a := a) (len := n) (cap := cap) (b := b5) (off := off) (s := 2) Try.underlying39 (by intro w; kernel_rfl) hia)
  have Hc := Lib.hid hcs
  have HL := Lib.hid hl
  obtain ⟨w1, hw1⟩ : ∃ x, x = w.alloc (.cells (srow fun _ => false) 44) := ⟨_, rfl⟩
  obtain ⟨w2, hw2⟩ : ∃ x, x = w1.alloc (.cells (srow fun _ => false) 44) := ⟨_, rfl⟩
  have k1 : Below w.heap.size w w1 := by rw [hw1]; exact below_alloc _ _
  have k2 : Below w1.heap.size w1 w2 := by rw [hw2]; exact below_alloc _ _
  obtain ⟨g0, hg0⟩ : ∃ x, x = w.heap.size := ⟨_, rfl⟩
  obtain ⟨g, hg⟩ : ∃ x, x = w.heap.size + 1 := ⟨_, rfl⟩
  have z1 : w1.heap.size = w.heap.size + 1 := by rw [hw1]; simp
  have HR0 := Lib.hid (show SetB w2 g0 (fun _ => false) from SetB.keep (by unfold SetB; rw [hw1, hg0]; exact heap_alloc_new _ _) k2)
  have HS0 := Lib.hid (show SetB w2 g (fun _ => false) from by unfold SetB; rw [hw2, hg, ← z1]; exact heap_alloc_new _ _)
  have HB2 := Lib.hid (Below.tr k1 k2)
  have Hw1 := Lib.hid hw1
  have Hw2 := Lib.hid hw2
  have Hg0 := Lib.hid hg0
  have Hg := Lib.hid hg
  have Hz1 := Lib.hid z1
  clear hv hia hcs hn hl hw1 hw2 k1 k2 hg0 hg z1
  go_enter Try.func77, Try.ntmps77
  go_upto_region 2 with fail
  rw [zero_srow, ← Hw1.out, ← Hw2.out, ← Hg.out, ← Hg0.out]
  clear Hw1 Hw2
  go_wp2_with fail
  go_loopw [8] (fun vi wr => ∃ (k : Nat) (b : Nat → Bool), vi = .int .i64 k ∧ k ≤ n ∧ Below w.heap.size w wr ∧ SetB wr g0 (fun _ => false) ∧ SetB wr g b ∧ ∀ c, c < 252 → (b c = true ↔ ∃ f, f ∈ l.take k ∧ rcd f = (c : Int))) (fun vi _ => n - (intOf vi).toNat)
  case atStart => exact ⟨0, fun _ => false, rfl, Nat.zero_le _, HB2.out, HR0.out, HS0.out, fun c _ => ⟨fun h => (by cases h), fun ⟨f, h, _⟩ => by rw [List.take_zero] at h; cases h⟩⟩
  case round =>
    clear HR0 HS0 HB2
    generalize wr = wx at *
    obtain ⟨k, b, rfl, hk, hb, hr0, hs, hq⟩ := hrel
    have HB := Lib.hid hb
    have HR0 := Lib.hid hr0
    have HS := Lib.hid hs
    have HQ := Lib.hid hq
    clear hb hr0 hs hq
    by_cases hlt : k < n
    · obtain ⟨q0, q1, q2⟩ := Hc.out k hlt
      have q0 := Below.keep HB.out q0
      have q1 := Below.keep HB.out q1
      have q2 := Ints.keep q2 HB.out
      have hixk := Hix.out k
      have hlt2 : k < l.length := by rw [← Hn.out]; exact hlt
      have HTk := Lib.hid (show l.take (k + 1) = l.take k ++ [l.getD k (0, [])] from take_get hlt2)
      have hfc := HL.out (l.getD k (0, [])) (getA_mem hlt2)
      unfold aR at q0
      unfold aA at q2
      obtain ⟨f, hf⟩ : ∃ x, x = l.getD k (0, []) := ⟨_, rfl⟩
      rw [← hf] at q0 q2 HTk hfc
      obtain ⟨xa, xc, hxs⟩ := ints_slice q2
      rw [hxs] at q1 q2
      obtain ⟨w3, hw3⟩ : ∃ x, x = wx.alloc (.cells #[.int .i64 f.1, .slice xa f.2.length xc] 50) := ⟨_, rfl⟩
      have hb3 : Below wx.heap.size wx w3 := by rw [hw3]; exact below_alloc _ _
      obtain ⟨bx, hbx⟩ : ∃ x, x = wx.heap.size := ⟨_, rfl⟩
      have HC := Lib.hid (codeR_any f hfc _ w3 (q2.keep hb3))
      have hrg := rcd_range hfc
      obtain ⟨xn, hxn⟩ : ∃ x, x = f.2.length := ⟨_, rfl⟩
      obtain ⟨r, hrr⟩ : ∃ x, x = f.1 := ⟨_, rfl⟩
      rw [← hxn] at q1 hw3 HC
      rw [← hrr] at q0 hw3 HC
      have HX := Lib.hid (show w3.heap[bx]? = some (.cells #[.int .i64 r, .slice xa xn xc] 50 (0, 0)) from by rw [hw3, hbx]; exact heap_alloc_new _ _)
      have HB3 := Lib.hid (Below.tr HB.out hb3)
      have HS3 := Lib.hid (HS.out.keep hb3)
      have HR3 := Lib.hid (HR0.out.keep hb3)
      obtain ⟨c, hc⟩ : ∃ c : Nat, rcd f = c := ⟨(rcd f).toNat, by omega⟩
      have HcE := Lib.hid hc
      rw [hc] at HC hrg
      have Hw3 := Lib.hid hw3
      have Hbx := Lib.hid hbx
      clear hf hxs hxn hrr hw3 hb3 hbx hlt2 q2 hfc hc
      go_upto_region 5 with fail
      rw [← Hw3.out, ← Hbx.out]
      clear Hw3 q0 q1 hixk
      have g0' := aCell HX.out 0 rfl
      have g1' := aCell HX.out 1 rfl
      have hc252 : c < 252 := by omega
      have hci : (c : Int) < 252 := by omega
      go_wp2_with fail
      refine HC.out.mono ?_
      clear HC
      rintro e w4 ⟨rfl, q, hq⟩
      have hb4 := quietB hq
      have HB4 := Lib.hid (Below.tr HB3.out hb4)
      have HS4 := Lib.hid (HS3.out.keep hb4)
      have HR4 := Lib.hid (HR3.out.keep hb4)
      clear hq hb4 g0' g1'
      have gc := HS4.out.at hc252
      have gf := HS4.out.fz c
      obtain ⟨xb, hxb⟩ : ∃ x, x = b c := ⟨_, rfl⟩
      rw [← hxb] at gc
      clear hxb
      have HS5 := Lib.hid (HS4.out.set c true)
      have HR5 := Lib.hid (show SetB (w4.setCell ⟨g, c, none⟩ (.bool true)) g0 (fun _ => false) from (heap_setCell_other w4 ⟨g, c, none⟩ g0 _ (by have := Hg.out; have := Hg0.out; show g0 ≠ g; omega)).trans HR4.out)
      have HB5 := Lib.hid (show Below w.heap.size w (w4.setCell ⟨g, c, none⟩ (.bool true)) from HB4.out.setCell (show w.heap.size ≤ g from by have := Hg.out; omega) _)
      have HQ5 := Lib.hid (show ∀ d, d < 252 → (bup b c true d = true ↔ ∃ f, f ∈ l.take (k + 1) ∧ rcd f = (d : Int)) from fun d hd => by
        unfold bup
        rw [HTk.out]
        by_cases e : d = c
        · rw [if_pos e]
          exact ⟨fun _ => ⟨f, List.mem_append_right _ (by simp), by rw [HcE.out, e]⟩, fun _ => rfl⟩
        · rw [if_neg e, HQ.out d hd]
          constructor
          · rintro ⟨x, h1, h2⟩
            exact ⟨x, List.mem_append_left _ h1, h2⟩
          · rintro ⟨x, h1, h2⟩
            rcases List.mem_append.1 h1 with h1 | h1
            · exact ⟨x, h1, h2⟩
            · rw [List.mem_singleton.1 h1, HcE.out] at h2
              exact absurd (by omega) e)
      go_wp2_with fail
      clear gc gf
      generalize w4.setCell ⟨g, c, none⟩ (.bool true) = w5 at *
      go_roundw
      case rel => exact ⟨k + 1, _, by go_num, by omega, HB5.out, HR5.out, HS5.out, HQ5.out⟩
      case measure => simp [intOf]; omega
    · obtain rfl : k = n := by omega
      have HQ2 := Lib.hid (show ∀ c, c < 252 → (b c = true ↔ ∃ f, f ∈ l ∧ rcd f = (c : Int)) from fun c hc => by
        have := HQ.out c hc
        rwa [Hn.out, List.take_length] at this)
      have HG := Lib.hid (setRow_heap wx g0 _ (srow b) _ _ HR0.out)
      have HB9 := Lib.hid (below_setRow (b := g0) HB.out (by rw [Hg0.out]; exact Nat.le_refl _) (srow b))
      have hz : (srow fun _ => false).size = (srow b).size := by rw [srow_size, srow_size]
      go_wp2_with (first | (refine wpList_load_row rfl 44 (.tmp 3) rfl g rfl 44 (srow b) (0, 0) _ HS.out undSet rfl (sizeSet2 b) ?_) | (refine wpList_store_row rfl 44 (.tmp 2) (.tmp 19) rfl g0 (srow b) rfl rfl 44 _ HR0.out (sizeSet2 b) hz (srow_one b) ?_))
      generalize wx.setRow g0 (srow b) = w9 at *
      refine bodyPost_ret (results_cell_row Try.results77 _ _ g0 44 _ (0, 0) _ rfl HG.out undSet rfl (sizeSet2 b)) rfl ?_
      exact ⟨b, rfl, HQ2.out, HB9.out⟩
#print axioms OfR_any
theorem eq8r {v : List Int} (h : v.length = 8) : ∃ x0 x1 x2 x3 x4 x5 x6 x7, v = [x0, x1, x2, x3, x4, x5, x6, x7] := by
  match v, h with
  | [x0, x1, x2, x3, x4, x5, x6, x7], _ => exact ⟨x0, x1, x2, x3, x4, x5, x6, x7, rfl⟩
set_option maxRecDepth 100000 in
set_option maxHeartbeats 8000000 in
theorem freeR_any (r : RRule) (hat : ∀ b, b ∈ r.2 → AtR b.2) (m : List Int) (hm8 : m.length = 8) (hfc : ∀ b, b ∈ r.2 → b.1 = true → FcR (gnd m b.2)) (k : Nat → Bool) (u v : Value) (w : World) (hu : Ints w u r.1.2) (hv : Lits w v r.2) (B : Bool) (hB : B = true ↔ ∀ b, b ∈ r.2 → b.1 = true → k (rcd (gnd m b.2)).toNat = false) :
    Calls Try.prog 94 #[.agg #[.int .i64 r.1.1, u, v], .agg (vrow m), .agg (srow k)] w fun e w' => e = .returned (.bool B) ∧ Below w.heap.size w w' := by
  obtain ⟨⟨hr, A⟩, bd⟩ := r
  simp only at hu hv hat hfc hB ⊢
  obtain ⟨x0, x1, x2, x3, x4, x5, x6, x7, rfl⟩ := eq8r hm8
  obtain ⟨ua, uc, rfl⟩ := ints_slice hu
  obtain ⟨a6, b6, off6, cap6, rfl, hvl, hia6, _, hcs6⟩ := Lits.get hv
  obtain ⟨un, hun⟩ : ∃ x, x = A.length := ⟨_, rfl⟩
  obtain ⟨bn, hbn⟩ : ∃ x, x = bd.length := ⟨_, rfl⟩
  have Hbn := Lib.hid hbn
  rw [← hun]
  rw [← hbn] at hia6 hvl hcs6 ⊢
  have Hix6 := Lib.hid (run_ix (P := Try.prog) (t := 84) (a := a6) (len := bn) (cap := cap6) (b := b6) (off := off6) (s := 3) Try.underlying84 (by intro w; kernel_rfl) hia6)
  have Hc6 := Lib.hid hcs6
  have Hat := Lib.hid hat
  have Hfc := Lib.hid hfc
  have HBe := Lib.hid hB
  obtain ⟨w1, hw1⟩ : ∃ x, x = w.alloc (.cells #[.int .i64 hr, .slice ua un uc, .slice a6 bn cap6] 86) := ⟨_, rfl⟩
  obtain ⟨w2, hw2⟩ : ∃ x, x = w1.alloc (.cells (vrow [x0, x1, x2, x3, x4, x5, x6, x7]) 80) := ⟨_, rfl⟩
  obtain ⟨w3, hw3⟩ : ∃ x, x = w2.alloc (.cells (srow k) 44) := ⟨_, rfl⟩
  have k1 : Below w.heap.size w w1 := by rw [hw1]; exact below_alloc _ _
  have k2 : Below w1.heap.size w1 w2 := by rw [hw2]; exact below_alloc _ _
  have k3 : Below w2.heap.size w2 w3 := by rw [hw3]; exact below_alloc _ _
  obtain ⟨bA, hbA⟩ : ∃ x, x = w.heap.size := ⟨_, rfl⟩
  obtain ⟨bM, hbM⟩ : ∃ x, x = w.heap.size + 1 := ⟨_, rfl⟩
  obtain ⟨bS, hbS⟩ : ∃ x, x = w.heap.size + 1 + 1 := ⟨_, rfl⟩
  have z1 : w1.heap.size = w.heap.size + 1 := by rw [hw1]; simp
  have z2 : w2.heap.size = w.heap.size + 1 + 1 := by rw [hw2]; simp; omega
  have HA := Lib.hid (show w3.heap[bA]? = some (.cells #[.int .i64 hr, .slice ua un uc, .slice a6 bn cap6] 86 (0, 0)) from blk_keep2 (blk_keep2 (by rw [hw1, hbA]; exact heap_alloc_new _ _) k2) k3)
  have HM := Lib.hid (show w3.heap[bM]? = some (.cells (vrow [x0, x1, x2, x3, x4, x5, x6, x7]) 80 (0, 0)) from blk_keep2 (by rw [hw2, hbM, ← z1]; exact heap_alloc_new _ _) k3)
  have HS := Lib.hid (show SetB w3 bS k from by unfold SetB; rw [hw3, hbS, ← z2]; exact heap_alloc_new _ _)
  have HB3 := Lib.hid (Below.tr k1 (Below.tr k2 k3))
  have Hw := Lib.hid (show w3 = ((w.alloc (.cells #[.int .i64 hr, .slice ua un uc, .slice a6 bn cap6] 86)).alloc (.cells (vrow [x0, x1, x2, x3, x4, x5, x6, x7]) 80)).alloc (.cells (srow k) 44) from by rw [hw3, hw2, hw1])
  have HbA := Lib.hid hbA
  have HbM := Lib.hid hbM
  have HbS := Lib.hid hbS
  clear hu hv hia6 hcs6 hat hfc hB hun hbn hw1 hw2 hw3 k1 k2 k3 hbA hbM hbS z1 z2 hm8
  go_enter Try.func94, Try.ntmps94
  go_upto_region 1 with fail
  rw [← Hw.out, ← HbS.out, ← HbM.out, ← HbA.out]
  clear Hw
  have g2 := aCell HA.out 2 rfl
  go_wp2_with fail
  clear g2
  go_loopw [12] (fun vi wr => ∃ j : Nat, vi = .int .i64 j ∧ j ≤ bn ∧ Below w3.heap.size w3 wr ∧ ∀ b, b ∈ bd.take j → b.1 = true → k (rcd (gnd [x0, x1, x2, x3, x4, x5, x6, x7] b.2)).toNat = false) (fun vi _ => bn - (intOf vi).toNat)
  case atStart => exact ⟨0, rfl, Nat.zero_le _, Below.refl _ _, fun b hb => by rw [List.take_zero] at hb; cases hb⟩
  case round =>
    generalize wr = wz at *
    obtain ⟨j, rfl, hj, hb, hq⟩ := hrel
    have HB := Lib.hid hb
    have HQ := Lib.hid hq
    clear hb hq
    by_cases hlj : j < bn
    · obtain ⟨xa, xc, hd0, hd1, hd2, hxi⟩ := Hc6.out j hlj
      have hbw := Below.tr HB3.out HB.out
      have hd0 := Below.keep hbw hd0
      have hd1 := Below.keep hbw hd1
      have hd2 := Below.keep hbw hd2
      have hxi := hxi.keep hbw
      have hixj := Hix6.out j
      have hlj2 : j < bd.length := by rw [← Hbn.out]; exact hlj
      have HMb := Lib.hid (show lL bd j ∈ bd from by rw [lL_get hlj2]; exact List.getElem_mem hlj2)
      have HTj := Lib.hid (show bd.take (j + 1) = bd.take j ++ [lL bd j] from by rw [List.take_succ_eq_append_getElem hlj2, lL_get hlj2])
      obtain ⟨⟨N, a⟩, hbb⟩ : ∃ x, x = lL bd j := ⟨_, rfl⟩
      rw [← hbb] at hd0 hd1 hd2 HMb HTj hxi
      simp only at hd0 hd1 hd2 hxi
      have Hxi := Lib.hid hxi
      obtain ⟨xn, hxn⟩ : ∃ x, x = a.2.length := ⟨_, rfl⟩
      rw [← hxn] at hd2 Hxi
      obtain ⟨s, hs⟩ : ∃ x, x = a.1 := ⟨_, rfl⟩
      rw [← hs] at hd1
      obtain ⟨w5, hw5⟩ : ∃ x, x = wz.alloc (.cells #[.bool N, .int .i64 s, .slice xa xn xc] 88) := ⟨_, rfl⟩
      have hb5 : Below wz.heap.size wz w5 := by rw [hw5]; exact below_alloc _ _
      obtain ⟨bl, hbl⟩ : ∃ x, x = wz.heap.size := ⟨_, rfl⟩
      have HL := Lib.hid (show w5.heap[bl]? = some (.cells #[.bool N, .int .i64 s, .slice xa xn xc] 88 (0, 0)) from by rw [hw5, hbl]; exact heap_alloc_new _ _)
      have HB5 := Lib.hid (Below.tr HB.out hb5)
      have HM5 := Lib.hid (blk_keep2 HM.out HB5.out)
      have HS5 := Lib.hid (HS.out.keep HB5.out)
      have HXi := Lib.hid (Hxi.out.keep hb5)
      have Hs := Lib.hid hs
      have Hw5 := Lib.hid hw5
      have Hbl := Lib.hid hbl
      clear hbb hxn hxi hw5 hb5 hbl hlj2 hbw hs
      go_upto_region 4 with fail
      rw [← Hw5.out, ← Hbl.out]
      clear Hw5 hd0 hd1 hd2 hixj
      have g0 := aCell HL.out 0 rfl
      cases N
      · have HQ2 := Lib.hid (show ∀ b, b ∈ bd.take (j + 1) → b.1 = true → k (rcd (gnd [x0, x1, x2, x3, x4, x5, x6, x7] b.2)).toNat = false from fun b hb h1 => by
          rw [HTj.out] at hb
          rcases List.mem_append.1 hb with hb | hb
          · exact HQ.out b hb h1
          · rw [List.mem_singleton.1 hb] at h1; cases h1)
        go_wp2_with fail
        go_roundw
        case rel => exact ⟨j + 1, by go_num, by omega, HB5.out, HQ2.out⟩
        case measure => simp [intOf]; omega
      · have hf : FcR (gnd [x0, x1, x2, x3, x4, x5, x6, x7] a) := Hfc.out _ HMb.out rfl
        have HC := Lib.hid (givenR_any [x0, x1, x2, x3, x4, x5, x6, x7] rfl a (Hat.out _ HMb.out) hf (.slice xa xn xc) w5 HXi.out)
        have HC := Lib.hid (show Calls Try.prog 93 #[.agg #[.int .i64 s, .slice xa xn xc], .agg #[.int .i64 x0, .int .i64 x1, .int .i64 x2, .int .i64 x3, .int .i64 x4, .int .i64 x5, .int .i64 x6, .int .i64 x7]] w5 (fun e w' => e = .returned (.int .i64 (rcd (gnd [x0, x1, x2, x3, x4, x5, x6, x7] a))) ∧ Below w5.heap.size w5 w') from by rw [Hs.out]; exact HC.out)
        have hrg := rcd_range hf
        obtain ⟨c, hc⟩ : ∃ c : Nat, rcd (gnd [x0, x1, x2, x3, x4, x5, x6, x7] a) = c := ⟨(rcd (gnd [x0, x1, x2, x3, x4, x5, x6, x7] a)).toNat, by omega⟩
        have HcE := Lib.hid hc
        rw [hc] at HC hrg
        clear hc hf
        have g1 := aCell HL.out 1 rfl
        have g2 := aCell HL.out 2 rfl
        have m0 := aCell HM5.out 0 rfl
        have m1 := aCell HM5.out 1 rfl
        have m2 := aCell HM5.out 2 rfl
        have m3 := aCell HM5.out 3 rfl
        have m4 := aCell HM5.out 4 rfl
        have m5 := aCell HM5.out 5 rfl
        have m6 := aCell HM5.out 6 rfl
        have m7 := aCell HM5.out 7 rfl
        have hc252 : c < 252 := by omega
        have hci : (c : Int) < 252 := by omega
        go_wp2_with fail
        refine HC.out.mono ?_
        clear HC
        rintro e w6 ⟨rfl, hb6⟩
        have HB6 := Lib.hid (Below.tr HB5.out hb6)
        have HS6 := Lib.hid (HS5.out.keep hb6)
        clear hb6 g0 g1 g2 m0 m1 m2 m3 m4 m5 m6 m7
        have gc := HS6.out.at hc252
        cases hk : k c
        · rw [hk] at gc
          have HQ2 := Lib.hid (show ∀ b, b ∈ bd.take (j + 1) → b.1 = true → k (rcd (gnd [x0, x1, x2, x3, x4, x5, x6, x7] b.2)).toNat = false from fun b hb h1 => by
            rw [HTj.out] at hb
            rcases List.mem_append.1 hb with hb | hb
            · exact HQ.out b hb h1
            · rw [List.mem_singleton.1 hb]
              show k (rcd (gnd [x0, x1, x2, x3, x4, x5, x6, x7] a)).toNat = false
              rw [HcE.out, Int.toNat_natCast]; exact hk)
          clear hk
          go_wp2_with fail
          go_roundw
          case rel => exact ⟨j + 1, by go_num, by omega, HB6.out, HQ2.out⟩
          case measure => simp [intOf]; omega
        · rw [hk] at gc
          have R := Lib.hid (show B = false from by
            cases B
            · rfl
            · have := HBe.out.1 rfl _ HMb.out rfl
              rw [show (true, a).2 = a from rfl, HcE.out, Int.toNat_natCast, hk] at this
              cases this)
          have Hw := Lib.hid (Below.tr HB3.out HB6.out)
          clear hk
          go_wp2_with fail
          go_ret
          exact ⟨by rw [R.out]; rfl, Hw.out⟩
    · obtain rfl : j = bn := by omega
      have R := Lib.hid (show B = true from HBe.out.2 fun b hb h1 => HQ.out b (by rw [Hbn.out, List.take_length]; exact hb) h1)
      have Hw := Lib.hid (Below.tr HB3.out HB.out)
      go_wp2_with fail
      go_ret
      exact ⟨by rw [R.out]; rfl, Hw.out⟩
#print axioms freeR_any
/-- numbers for eight variables, 0 for one that has none -/
def Mv8 (m : List Int) : Prop := m.length = 8 ∧ ∀ i, i < 8 → 0 ≤ m.getD i 0 ∧ m.getD i 0 ≤ 6
/-- m is a part of t -/
def Comp (m t : List Int) : Prop := ∀ i, i < 8 → m.getD i 0 ≠ 0 → m.getD i 0 = t.getD i 0
theorem Comp.refl (m : List Int) : Comp m m := fun _ _ _ => rfl
theorem Comp.trans {m n t : List Int} (h : Comp m n) (k : Comp n t) : Comp m t := fun i hi h0 => by
  have e := h i hi h0
  rw [e, k i hi (by rw [← e]; exact h0)]
/-- a literal without Not is in the set -/
def PosIn (s : Nat → Bool) (m : List Int) (b : RLit) : Prop := b.1 = false → FcR (gnd m b.2) ∧ s (rcd (gnd m b.2)).toNat = true
/-- what instances returns from literal i on -/
structure InsN (bd : List RLit) (s : Nat → Bool) (i : Nat) (m : List Int) (N : List (List Int)) : Prop where
  ok : ∀ n, n ∈ N → Mv8 n ∧ Comp m n ∧ ∀ b, b ∈ bd.drop i → PosIn s n b
  all : ∀ t, Mv8 t → Comp m t → (∀ b, b ∈ bd.drop i → PosIn s t b) → ∃ n, n ∈ N ∧ Comp n t
theorem insN_end {bd : List RLit} {s : Nat → Bool} {i : Nat} {m : List Int} (hi : i = bd.length) (hm : Mv8 m) : InsN bd s i m [m] := by
  subst hi
  refine ⟨fun n hn => ?_, fun t _ ht _ => ⟨m, by simp, ht⟩⟩
  rw [List.mem_singleton.1 hn, List.drop_length]
  exact ⟨hm, Comp.refl m, fun b hb => (by cases hb)⟩
theorem drop_lit {bd : List RLit} {i : Nat} (hi : i < bd.length) : bd.drop i = lL bd i :: bd.drop (i + 1) := by
  rw [lL_get hi]; exact List.drop_eq_getElem_cons hi
theorem insN_not {bd : List RLit} {s : Nat → Bool} {i : Nat} {m : List Int} {N : List (List Int)} (hi : i < bd.length) (hn : (lL bd i).1 = true) (h : InsN bd s (i + 1) m N) : InsN bd s i m N := by
  refine ⟨fun n hN => ?_, fun t h1 h2 h3 => h.all t h1 h2 fun b hb => h3 b (by rw [drop_lit hi]; exact List.mem_cons_of_mem _ hb)⟩
  obtain ⟨a, b, c⟩ := h.ok n hN
  refine ⟨a, b, fun x hx => ?_⟩
  rw [drop_lit hi] at hx
  rcases List.mem_cons.1 hx with rfl | hx
  · exact fun h0 => by rw [hn] at h0; cases h0
  · exact c x hx
/-- the codes below c are done -/
structure InsC (bd : List RLit) (s : Nat → Bool) (i : Nat) (m : List Int) (c : Nat) (N : List (List Int)) : Prop where
  ok : ∀ n, n ∈ N → Mv8 n ∧ Comp m n ∧ ∀ b, b ∈ bd.drop i → PosIn s n b
  all : ∀ t, Mv8 t → Comp m t → (∀ b, b ∈ bd.drop i → PosIn s t b) → (rcd (gnd t (lL bd i).2)).toNat < c → ∃ n, n ∈ N ∧ Comp n t
theorem insC_0 (bd : List RLit) (s : Nat → Bool) (i : Nat) (m : List Int) : InsC bd s i m 0 [] := ⟨fun n hn => (by cases hn), fun t _ _ _ h => absurd h (Nat.not_lt_zero _)⟩
theorem insC_end {bd : List RLit} {s : Nat → Bool} {i : Nat} {m : List Int} {N : List (List Int)} (hi : i < bd.length) (hp : (lL bd i).1 = false) (h : InsC bd s i m 252 N) : InsN bd s i m N :=
  ⟨h.ok, fun t h1 h2 h3 => h.all t h1 h2 h3 (by
    have := (h3 _ (by rw [drop_lit hi]; exact List.mem_cons_self ..) hp).1
    have := rcd_range this
    omega)⟩
/-- no numbers give the literal the fact of code c -/
theorem insC_skip {bd : List RLit} {s : Nat → Bool} {i : Nat} {m : List Int} {c : Nat} {N : List (List Int)} (hi : i < bd.length) (hp : (lL bd i).1 = false) (h : InsC bd s i m c N) (hn : s c = true → ∀ t, Mv8 t → Comp m t → ¬ gnd t (lL bd i).2 = unr c) : InsC bd s i m (c + 1) N := by
  refine ⟨h.ok, fun t h1 h2 h3 h4 => ?_⟩
  by_cases e : (rcd (gnd t (lL bd i).2)).toNat = c
  · obtain ⟨hf, hs⟩ := h3 _ (by rw [drop_lit hi]; exact List.mem_cons_self ..) hp
    rw [e] at hs
    exact absurd (by rw [← e]; exact (unr_rcd hf).symm) (hn hs t h1 h2)
  · exact h.all t h1 h2 h3 (by omega)
/-- fitting one literal to a fact: k arguments are done -/
structure FitW (m n : List Int) (A F : List Int) (k : Nat) (ok : Bool) : Prop where
  mv : Mv8 n
  cm : Comp m n
  sn : ok = true → ∀ j, j < k → numOf n (A.getD j 0) = F.getD j 0
  cp : ∀ t, Mv8 t → Comp m t → (∀ j, j < k → numOf t (A.getD j 0) = F.getD j 0) → ok = true ∧ Comp n t
theorem fitW_0 {m : List Int} (hm : Mv8 m) (A F : List Int) : FitW m m A F 0 true := ⟨hm, Comp.refl m, fun _ j hj => absurd hj (Nat.not_lt_zero j), fun _ _ h _ => ⟨rfl, h⟩⟩
theorem numOf_pos {v : List Int} {t : Int} (h : 0 ≤ t) : numOf v t = v.getD t.toNat 0 := if_pos h
/-- a number, or a variable that has one already -/
theorem fitW_test {m n A F : List Int} {k : Nat} {ok ok' : Bool} (h : FitW m n A F k ok) (hv : ¬ 0 ≤ A.getD k 0 ∨ (0 ≤ A.getD k 0 ∧ A.getD k 0 ≤ 7 ∧ n.getD (A.getD k 0).toNat 0 ≠ 0)) (ho : ok' = true ↔ ok = true ∧ F.getD k 0 = numOf n (A.getD k 0)) : FitW m n A F (k + 1) ok' := by
  refine ⟨h.mv, h.cm, fun h1 j hj => ?_, fun t h1 h2 h3 => ?_⟩
  · obtain ⟨a, b⟩ := ho.1 h1
    by_cases e : j = k
    · subst e; exact b.symm
    · exact h.sn a j (by omega)
  · obtain ⟨a, b⟩ := h.cp t h1 h2 fun j hj => h3 j (by omega)
    refine ⟨ho.2 ⟨a, ?_⟩, b⟩
    rw [← h3 k (by omega)]
    rcases hv with hv | ⟨h0, h7, hz⟩
    · rw [numOf_neg hv, numOf_neg hv]
    · rw [numOf_pos h0, numOf_pos h0]
      exact (b _ (by omega) hz).symm
/-- a variable that has none yet -/
theorem fitW_new {m n A F : List Int} {k : Nat} {ok : Bool} (h : FitW m n A F k ok) (h0 : 0 ≤ A.getD k 0) (h7 : A.getD k 0 ≤ 7) (hz : n.getD (A.getD k 0).toNat 0 = 0) (hF : ∀ j, j ≤ k → 1 ≤ F.getD j 0 ∧ F.getD j 0 ≤ 6) : FitW m (n.set (A.getD k 0).toNat (F.getD k 0)) A F (k + 1) ok := by
  have hl : (A.getD k 0).toNat < n.length := by rw [h.mv.1]; omega
  have hFk := hF k (Nat.le_refl _)
  have hat : ∀ i, (n.set (A.getD k 0).toNat (F.getD k 0)).getD i 0 = if (A.getD k 0).toNat = i then F.getD k 0 else n.getD i 0 := fun i => getD_setI hl
  refine ⟨⟨by rw [List.length_set]; exact h.mv.1, fun i hi => ?_⟩, fun i hi hm => ?_, fun h1 j hj => ?_, fun t h1 h2 h3 => ?_⟩
  · rw [hat]
    split
    · omega
    · exact h.mv.2 i hi
  · rw [hat]
    have e := h.cm i hi hm
    split
    · rename_i q
      rw [q] at hz
      rw [hz] at e
      exact absurd e hm
    · exact e
  · by_cases e : j = k
    · subst e
      rw [numOf_pos h0, hat, if_pos rfl]
    · have hs := h.sn h1 j (by omega)
      have hFj := hF j (by omega)
      by_cases c : 0 ≤ A.getD j 0
      · rw [numOf_pos c] at hs ⊢
        rw [hat, if_neg, hs]
        intro q
        rw [← q, hz] at hs
        omega
      · rw [numOf_neg c] at hs ⊢; exact hs
  · obtain ⟨a, b⟩ := h.cp t h1 h2 fun j hj => h3 j (by omega)
    refine ⟨a, fun i hi hn => ?_⟩
    rw [hat] at hn ⊢
    split
    · rename_i q
      have := h3 k (by omega)
      rw [numOf_pos h0, q] at this
      exact this.symm
    · rename_i q
      rw [if_neg q] at hn
      exact b i hi hn
theorem list_getD {A F : List Int} (hl : A.length = F.length) {m : List Int} (h : ∀ j, j < A.length → numOf m (A.getD j 0) = F.getD j 0) : A.map (numOf m) = F := by
  refine List.ext_getElem (by rw [List.length_map]; exact hl) fun j h1 h2 => ?_
  rw [List.length_map] at h1
  have := h j h1
  rw [List.getD_eq_getElem?_getD, List.getElem?_eq_getElem h1, List.getD_eq_getElem?_getD, List.getElem?_eq_getElem h2] at this
  rw [List.getElem_map]; exact this
theorem getD_map {A F : List Int} {t : List Int} (h : A.map (numOf t) = F) {j : Nat} (hj : j < A.length) : numOf t (A.getD j 0) = F.getD j 0 := by
  subst h
  rw [List.getD_eq_getElem?_getD, List.getElem?_eq_getElem hj, List.getD_eq_getElem?_getD, List.getElem?_map, List.getElem?_eq_getElem hj]; rfl
/-- it does not fit -/
theorem fitW_no {m n A F : List Int} (h : FitW m n A F A.length false) {t : List Int} (h1 : Mv8 t) (h2 : Comp m t) : ¬ A.map (numOf t) = F := fun e => by
  have := (h.cp t h1 h2 fun j hj => getD_map e hj).1
  cases this
/-- it fits: the results of the rest are added -/
theorem insC_fit {bd : List RLit} {s : Nat → Bool} {i : Nat} {m n : List Int} {c : Nat} {N N' : List (List Int)} (hi : i < bd.length) (hp : (lL bd i).1 = false) (hc : c < 252) (hs : s c = true) (hr : (lL bd i).2.1 = (unr c).1) (hl : (lL bd i).2.2.length = (unr c).2.length)
    (h : InsC bd s i m c N) (hw : FitW m n (lL bd i).2.2 (unr c).2 (lL bd i).2.2.length true) (h' : InsN bd s (i + 1) n N') : InsC bd s i m (c + 1) (N ++ N') := by
  obtain ⟨uf, ur⟩ := unr_fc hc
  have hgn : gnd n (lL bd i).2 = unr c := Prod.ext hr (list_getD hl (hw.sn rfl))
  refine ⟨fun x hx => ?_, fun t h1 h2 h3 h4 => ?_⟩
  · rcases List.mem_append.1 hx with hx | hx
    · exact h.ok x hx
    · obtain ⟨a, b, d⟩ := h'.ok x hx
      refine ⟨a, hw.cm.trans b, fun y hy => ?_⟩
      rw [drop_lit hi] at hy
      rcases List.mem_cons.1 hy with rfl | hy
      · intro _
        have hgx : gnd x (lL bd i).2 = unr c := by
          rw [← hgn]
          show ((lL bd i).2.1, _) = ((lL bd i).2.1, _)
          refine congrArg _ (List.map_congr_left fun v hv => ?_)
          obtain ⟨j, hj, e⟩ := List.getElem_of_mem hv
          have hs2 := hw.sn rfl j hj
          have e2 : (lL bd i).2.2.getD j 0 = v := by rw [List.getD_eq_getElem?_getD, List.getElem?_eq_getElem hj]; exact e
          rw [e2] at hs2
          have h16 := uf.2.2 ((unr c).2.getD j 0) (by rw [List.getD_eq_getElem?_getD, List.getElem?_eq_getElem (by omega)]; exact List.getElem_mem _)
          by_cases c0 : 0 ≤ v
          · rw [numOf_pos c0] at hs2 ⊢
            rw [numOf_pos c0]
            by_cases c8 : v.toNat < 8
            · exact (b _ c8 (by omega)).symm
            · rw [List.getD_eq_getElem?_getD, List.getElem?_eq_none (by rw [a.1]; omega), List.getD_eq_getElem?_getD, List.getElem?_eq_none (by rw [hw.mv.1]; omega)]
          · rw [numOf_neg c0, numOf_neg c0]
        rw [hgx, ur, Int.toNat_natCast]
        exact ⟨uf, hs⟩
      · exact d y hy
  · by_cases e : (rcd (gnd t (lL bd i).2)).toNat = c
    · obtain ⟨hf, _⟩ := h3 _ (by rw [drop_lit hi]; exact List.mem_cons_self ..) hp
      have hgt : gnd t (lL bd i).2 = unr c := by rw [← e]; exact (unr_rcd hf).symm
      have hmap : (lL bd i).2.2.map (numOf t) = (unr c).2 := congrArg Prod.snd hgt
      obtain ⟨_, hct⟩ := hw.cp t h1 h2 fun j hj => getD_map hmap hj
      obtain ⟨x, hx, hxt⟩ := h'.all t h1 hct fun b hb => h3 b (by rw [drop_lit hi]; exact List.mem_cons_of_mem _ hb)
      exact ⟨x, List.mem_append_right _ hx, hxt⟩
    · obtain ⟨x, hx, hxt⟩ := h.all t h1 h2 h3 (by omega)
      exact ⟨x, List.mem_append_left _ hx, hxt⟩
#print axioms insC_fit
def cVr (N : List (List Int)) : List Value := N.flatMap fun v => v.map (Value.int .i64)
theorem cVr_app (N M : List (List Int)) : cVr (N ++ M) = cVr N ++ cVr M := by simp [cVr]
theorem cVr_one (N : List (List Int)) : ∀ u, u ∈ cVr N → u.oneCell' = true := fun u hu => by
  obtain ⟨v, _, h⟩ := List.mem_flatMap.1 hu
  obtain ⟨x, _, rfl⟩ := List.mem_map.1 h
  rfl
def OwnVs (B : Nat) (w : World) (v : Value) (N : List (List Int)) : Prop := w.ownsRow B 80 8 v N.length (cVr N)
theorem infoV8 : (Try.prog.info? 80).map (fun i => (i.zero, i.size, i.bytes)) = some (some (.agg #[.int .i64 0, .int .i64 0, .int .i64 0, .int .i64 0, .int .i64 0, .int .i64 0, .int .i64 0, .int .i64 0]), 8, 64) := by kernel_rfl
theorem elemV8 : Elem Try.prog 155 80 8 64 := elem_of Try.underlying155 infoV8 rfl (by omega) (by omega)
theorem run_index_arr {P : Program} {t e : TypeId} {n : Nat} {cs : Array Value} {i : Nat} {x : Value} (ht : P.underlying t = some (.array n e)) (hz : ∀ w, (sizeOf e).run P w = .ok 1 w) (ha : ∀ w, (isAgg e).run P w = .ok false w) (hi : i < n) (hx : cs[i]? = some x) (w : World) :
    (Instr.index t (.agg cs) (.int .i64 i)).run P w = .ok x w := by
  have hn : (0 : Int) ≤ (i : Int) ∧ (i : Int) < (n : Int) := by omega
  simp [Instr.index, run_underlying ht, asIntOf, hn, go_sem, hz, ha, hx]
  intro h; omega
theorem undV8 : Try.prog.underlying 80 = some (.array 8 3) := by kernel_rfl
theorem sizeV8 {m : List Int} (h : m.length = 8) : (Try.prog.info? 80).map (·.size) = some (vrow m).size := by rw [vrow_size, h]; kernel_rfl
/-- the blocks of a call -/
structure Ib (w : World) (bA bS bM : Nat) (hr : Int) (ua : Option Addr) (un uc : Nat) (va : Option Addr) (vn vc : Nat) (s : Nat → Bool) (m : List Int) : Prop where
  a : w.heap[bA]? = some (.cells #[.int .i64 hr, .slice ua un uc, .slice va vn vc] 86 (0, 0))
  s : SetB w bS s
  m : w.heap[bM]? = some (.cells (vrow m) 80 (0, 0))
theorem Ib.keep {w w' : World} {bA bS bM : Nat} {hr : Int} {ua : Option Addr} {un uc : Nat} {va : Option Addr} {vn vc : Nat} {s : Nat → Bool} {m : List Int} (h : Ib w bA bS bM hr ua un uc va vn vc s m) (hb : Below w.heap.size w w') : Ib w' bA bS bM hr ua un uc va vn vc s m := ⟨blk_keep2 h.a hb, h.s.keep hb, blk_keep2 h.m hb⟩
/-- what instances returns -/
def InE (bd : List RLit) (s : Nat → Bool) (i : Nat) (m : List Int) (d : Nat) (w : World) (e : Ending) (w' : World) : Prop :=
  ∃ a n c N, e = .returned (.slice a n c) ∧ OwnVs w.heap.size w' (.slice a n c) N ∧ InsN bd s i m N ∧ N.length ≤ 252 ^ d ∧ Below w.heap.size w w'
set_option maxRecDepth 100000 in
set_option maxHeartbeats 16000000 in
theorem instR_any (hr : Int) (A : List Int) (bd : List RLit) (hat : ∀ b, b ∈ bd → AtR b.2) (hb3 : bd.length ≤ 3) (s : Nat → Bool) : ∀ (d i : Nat) (m : List Int) (u v : Value) (w : World), i + d = bd.length → Mv8 m → Ints w u A → Lits w v bd →
    Calls Try.prog 92 #[.agg #[.int .i64 hr, u, v], .agg (srow s), .int .i64 (i : Int), .agg (vrow m)] w (InE bd s i m d w) := by
  intro d
  induction d with
  | zero =>
    intro i m u v w hid hm hu hv
    have hm8 := hm.1
    obtain ⟨ua, uc, rfl⟩ := ints_slice hu
    obtain ⟨va, b6, off6, vc, rfl, hvl, hia6, _, hcs6⟩ := Lits.get hv
    obtain ⟨un, hun⟩ : ∃ x, x = A.length := ⟨_, rfl⟩
    obtain ⟨bn, hbn⟩ : ∃ x, x = bd.length := ⟨_, rfl⟩
    have Hbn := Lib.hid hbn
    have Hui := Lib.hid hu
    have Hvi := Lib.hid hv
    rw [← hun] at Hui ⊢
    rw [← hbn] at hia6 hvl hcs6 Hvi ⊢
    have Hix6 := Lib.hid (run_ix (P := Try.prog) (t := 84) (a := va) (len := bn) (cap := vc) (b := b6) (off := off6) (s := 3) Try.underlying84 (by intro w; kernel_rfl) hia6)
    have Hc6 := Lib.hid hcs6
    obtain ⟨w1, hw1⟩ : ∃ x, x = w.alloc (.cells #[.int .i64 hr, .slice ua un uc, .slice va bn vc] 86) := ⟨_, rfl⟩
    obtain ⟨w2, hw2⟩ : ∃ x, x = w1.alloc (.cells (srow s) 44) := ⟨_, rfl⟩
    obtain ⟨w3, hw3⟩ : ∃ x, x = w2.alloc (.cells (vrow m) 80) := ⟨_, rfl⟩
    have k1 : Below w.heap.size w w1 := by rw [hw1]; exact below_alloc _ _
    have k2 : Below w1.heap.size w1 w2 := by rw [hw2]; exact below_alloc _ _
    have k3 : Below w2.heap.size w2 w3 := by rw [hw3]; exact below_alloc _ _
    obtain ⟨bA, hbA⟩ : ∃ x, x = w.heap.size := ⟨_, rfl⟩
    obtain ⟨bS, hbS⟩ : ∃ x, x = w.heap.size + 1 := ⟨_, rfl⟩
    obtain ⟨bM, hbM⟩ : ∃ x, x = w.heap.size + 1 + 1 := ⟨_, rfl⟩
    have z1 : w1.heap.size = w.heap.size + 1 := by rw [hw1]; simp
    have z2 : w2.heap.size = w.heap.size + 1 + 1 := by rw [hw2]; simp; omega
    have HX := Lib.hid (show Ib w3 bA bS bM hr ua un uc va bn vc s m from ⟨blk_keep2 (blk_keep2 (by rw [hw1, hbA]; exact heap_alloc_new _ _) k2) k3, SetB.keep (by unfold SetB; rw [hw2, hbS, ← z1]; exact heap_alloc_new _ _) k3, by rw [hw3, hbM, ← z2]; exact heap_alloc_new _ _⟩)
    have HB3 := Lib.hid (Below.tr k1 (Below.tr k2 k3))
    have Hw := Lib.hid (show w3 = ((w.alloc (.cells #[.int .i64 hr, .slice ua un uc, .slice va bn vc] 86)).alloc (.cells (srow s) 44)).alloc (.cells (vrow m) 80) from by rw [hw3, hw2, hw1])
    have HbA := Lib.hid hbA
    have HbM := Lib.hid hbM
    have HbS := Lib.hid hbS
    clear hu hv hia6 hcs6 hun hbn hw1 hw2 hw3 k1 k2 k3 hbA hbM hbS z1 z2
    have hie : ((i : Int) == (bn : Int)) = true := by rw [beq_iff_eq]; have := Hbn.out; omega
    have HI := Lib.hid (insN_end (s := s) (bd := bd) (by omega) hm)
    go_enter Try.func92, Try.ntmps92
    go_upto_region 1 with fail
    rw [← Hw.out, ← HbM.out, ← HbS.out, ← HbA.out]
    clear Hw
    have g2 := aCell HX.out.a 2 rfl
    obtain ⟨x0, x1, x2, x3, x4, x5, x6, x7, rfl⟩ := eq8r hm8
    have m0 : w3.cell? ⟨bM, 0, none⟩ = some (.int .i64 x0) := aCell HX.out.m 0 rfl
    have m1 : w3.cell? ⟨bM, 1, none⟩ = some (.int .i64 x1) := aCell HX.out.m 1 rfl
    have m2 : w3.cell? ⟨bM, 2, none⟩ = some (.int .i64 x2) := aCell HX.out.m 2 rfl
    have m3 : w3.cell? ⟨bM, 3, none⟩ = some (.int .i64 x3) := aCell HX.out.m 3 rfl
    have m4 : w3.cell? ⟨bM, 4, none⟩ = some (.int .i64 x4) := aCell HX.out.m 4 rfl
    have m5 : w3.cell? ⟨bM, 5, none⟩ = some (.int .i64 x5) := aCell HX.out.m 5 rfl
    have m6 : w3.cell? ⟨bM, 6, none⟩ = some (.int .i64 x6) := aCell HX.out.m 6 rfl
    have m7 : w3.cell? ⟨bM, 7, none⟩ = some (.int .i64 x7) := aCell HX.out.m 7 rfl
    obtain ⟨w4, hw4⟩ : ∃ x, x = w3.alloc (.cells #[.int .i64 x0, .int .i64 x1, .int .i64 x2, .int .i64 x3, .int .i64 x4, .int .i64 x5, .int .i64 x6, .int .i64 x7] 80) := ⟨_, rfl⟩
    have hb4 : Below w3.heap.size w3 w4 := by rw [hw4]; exact below_alloc _ _
    have HO := Lib.hid (show OwnVs w.heap.size w4 (.slice (some ⟨w3.heap.size, 0, none⟩) 1 1) [[x0, x1, x2, x3, x4, x5, x6, x7]] from by
      rw [hw4]; exact World.ownsRow_lit w3 #[.int .i64 x0, .int .i64 x1, .int .i64 x2, .int .i64 x3, .int .i64 x4, .int .i64 x5, .int .i64 x6, .int .i64 x7] 1 HB3.out.size (by unfold maxLen; omega) rfl)
    have HB4 := Lib.hid (Below.tr HB3.out hb4)
    have Hw4 := Lib.hid hw4
    clear hw4 hb4
    go_wp2_with fail
    rw [← Hw4.out]
    go_ret
    exact ⟨_, _, _, _, rfl, HO.out, HI.out, by simp, HB4.out⟩
  | succ d ih =>
    intro i m u v w hid hm hu hv
    have IH := Lib.hid ih
    clear ih
    have hm8 := hm.1
    obtain ⟨ua, uc, rfl⟩ := ints_slice hu
    obtain ⟨va, b6, off6, vc, rfl, hvl, hia6, _, hcs6⟩ := Lits.get hv
    obtain ⟨un, hun⟩ : ∃ x, x = A.length := ⟨_, rfl⟩
    obtain ⟨bn, hbn⟩ : ∃ x, x = bd.length := ⟨_, rfl⟩
    have Hbn := Lib.hid hbn
    have Hui := Lib.hid hu
    have Hvi := Lib.hid hv
    rw [← hun] at Hui ⊢
    rw [← hbn] at hia6 hvl hcs6 Hvi ⊢
    have Hix6 := Lib.hid (run_ix (P := Try.prog) (t := 84) (a := va) (len := bn) (cap := vc) (b := b6) (off := off6) (s := 3) Try.underlying84 (by intro w; kernel_rfl) hia6)
    have Hc6 := Lib.hid hcs6
    obtain ⟨w1, hw1⟩ : ∃ x, x = w.alloc (.cells #[.int .i64 hr, .slice ua un uc, .slice va bn vc] 86) := ⟨_, rfl⟩
    obtain ⟨w2, hw2⟩ : ∃ x, x = w1.alloc (.cells (srow s) 44) := ⟨_, rfl⟩
    obtain ⟨w3, hw3⟩ : ∃ x, x = w2.alloc (.cells (vrow m) 80) := ⟨_, rfl⟩
    have k1 : Below w.heap.size w w1 := by rw [hw1]; exact below_alloc _ _
    have k2 : Below w1.heap.size w1 w2 := by rw [hw2]; exact below_alloc _ _
    have k3 : Below w2.heap.size w2 w3 := by rw [hw3]; exact below_alloc _ _
    obtain ⟨bA, hbA⟩ : ∃ x, x = w.heap.size := ⟨_, rfl⟩
    obtain ⟨bS, hbS⟩ : ∃ x, x = w.heap.size + 1 := ⟨_, rfl⟩
    obtain ⟨bM, hbM⟩ : ∃ x, x = w.heap.size + 1 + 1 := ⟨_, rfl⟩
    have z1 : w1.heap.size = w.heap.size + 1 := by rw [hw1]; simp
    have z2 : w2.heap.size = w.heap.size + 1 + 1 := by rw [hw2]; simp; omega
    have HX := Lib.hid (show Ib w3 bA bS bM hr ua un uc va bn vc s m from ⟨blk_keep2 (blk_keep2 (by rw [hw1, hbA]; exact heap_alloc_new _ _) k2) k3, SetB.keep (by unfold SetB; rw [hw2, hbS, ← z1]; exact heap_alloc_new _ _) k3, by rw [hw3, hbM, ← z2]; exact heap_alloc_new _ _⟩)
    have HB3 := Lib.hid (Below.tr k1 (Below.tr k2 k3))
    have Hw := Lib.hid (show w3 = ((w.alloc (.cells #[.int .i64 hr, .slice ua un uc, .slice va bn vc] 86)).alloc (.cells (srow s) 44)).alloc (.cells (vrow m) 80) from by rw [hw3, hw2, hw1])
    have HbA := Lib.hid hbA
    have HbM := Lib.hid hbM
    have HbS := Lib.hid hbS
    clear hu hv hia6 hcs6 hun hbn hw1 hw2 hw3 k1 k2 k3 hbA hbM hbS z1 z2
    have hie : ((i : Int) == (bn : Int)) = false := by rw [beq_eq_false_iff_ne]; have := Hbn.out; omega
    have hil : i < bn := by have := Hbn.out; omega
    have hil2 : i < bd.length := by omega
    have hMb : lL bd i ∈ bd := by rw [lL_get hil2]; exact List.getElem_mem hil2
    have Hat1 := Lib.hid (hat _ hMb)
    have HNot := Lib.hid (fun N (h1 : (lL bd i).1 = true) (h : InsN bd s (i + 1) m N) => insN_not hil2 h1 h)
    have HEnd := Lib.hid (fun N (h1 : (lL bd i).1 = false) (h : InsC bd s i m 252 N) => insC_end hil2 h1 h)
    have HSkip := Lib.hid (fun c N (h1 : (lL bd i).1 = false) (h : InsC bd s i m c N) h2 => insC_skip hil2 h1 h h2)
    have HFit := Lib.hid (fun n c N N' (h1 : (lL bd i).1 = false) (hc : c < 252) (hs : s c = true) hr2 hl2 (h : InsC bd s i m c N) hw (h' : InsN bd s (i + 1) n N') => insC_fit hil2 h1 hc hs hr2 hl2 h hw h')
    obtain ⟨xa, xc, hd0, hd1, hd2, hxi⟩ := Hc6.out i hil
    have hixi := Hix6.out i
    obtain ⟨⟨N0, s0, X⟩, hbb⟩ : ∃ x, x = lL bd i := ⟨_, rfl⟩
    rw [← hbb] at hd0 hd1 hd2 hxi Hat1 HNot HEnd HSkip HFit
    simp only at hd0 hd1 hd2 hxi
    have Hxi0 := Lib.hid hxi
    obtain ⟨xn, hxn⟩ : ∃ x, x = X.length := ⟨_, rfl⟩
    have Hxn := Lib.hid hxn
    rw [← hxn] at hd2 Hxi0
    have hd0 := Below.keep HB3.out hd0
    have hd1 := Below.keep HB3.out hd1
    have hd2 := Below.keep HB3.out hd2
    have hid1 : i + 1 + d = bd.length := by omega
    have hi3 : i ≤ 3 := by omega
    have hd2' : d ≤ 2 := by omega
    have Hid1 := Lib.hid hid1
    obtain ⟨w4, hw4⟩ : ∃ x, x = w3.alloc (.cells #[.bool N0, .int .i64 s0, .slice xa xn xc] 88) := ⟨_, rfl⟩
    have hb4 : Below w3.heap.size w3 w4 := by rw [hw4]; exact below_alloc _ _
    obtain ⟨bL, hbL⟩ : ∃ x, x = w3.heap.size := ⟨_, rfl⟩
    have HL := Lib.hid (show w4.heap[bL]? = some (.cells #[.bool N0, .int .i64 s0, .slice xa xn xc] 88 (0, 0)) from by rw [hw4, hbL]; exact heap_alloc_new _ _)
    have HX4 := Lib.hid (HX.out.keep hb4)
    have HB4 := Lib.hid (Below.tr HB3.out hb4)
    have Hui4 := Lib.hid (Hui.out.keep HB4.out)
    have Hvi4 := Lib.hid (Hvi.out.keep HB4.out)
    have Hxi4 := Lib.hid (Hxi0.out.keep HB4.out)
    have Hw4 := Lib.hid hw4
    have HbL := Lib.hid hbL
    have Hm := Lib.hid hm
    clear hat hil2 hMb hbb hxn hxi hw4 hb4 hbL hid1 hm Hc6 Hix6 Hui Hvi
    go_enter Try.func92, Try.ntmps92
    go_upto_region 1 with fail
    rw [← Hw.out, ← HbM.out, ← HbS.out, ← HbA.out]
    clear Hw
    have g2 := aCell HX.out.a 2 rfl
    go_upto_region 4 with fail
    rw [← Hw4.out, ← HbL.out]
    clear Hw4 g2 hd0 hd1 hd2 hixi HX
    have g0 := aCell HL.out 0 rfl
    cases N0
    rotate_left
    · have a0 := aCell HX4.out.a 0 rfl
      have a1 := aCell HX4.out.a 1 rfl
      have a2 := aCell HX4.out.a 2 rfl
      have HC := Lib.hid (IH.out (i + 1) m (.slice ua un uc) (.slice va bn vc) w4 Hid1.out Hm.out Hui4.out Hvi4.out)
      rw [show ((i + 1 : Nat) : Int) = (i : Int) + 1 from by omega] at HC
      go_wp2_with (first | (refine wpList_load_row rfl 44 (.tmp 5) rfl bS rfl 44 (srow s) (0, 0) _ HX4.out.s undSet rfl (sizeSet2 s) ?_) | (refine wpList_load_row rfl 80 (.tmp 7) rfl bM rfl 80 (vrow m) (0, 0) _ HX4.out.m undV8 rfl (sizeV8 Hm.out.1) ?_))
      refine HC.out.mono ?_
      clear HC
      rintro e w5 ⟨ra, rn, rc, N, rfl, hO, hI, hl, hb⟩
      have HO := Lib.hid (owns_mono hO HB4.out.size)
      have HI := Lib.hid (HNot.out N (by first | rfl | trivial) hI)
      have HBw := Lib.hid (Below.tr HB4.out hb)
      have Hl := Lib.hid (show N.length ≤ 252 ^ (d + 1) from Nat.le_trans hl (Nat.pow_le_pow_right (by decide) (Nat.le_succ d)))
      clear hO hI hl hb a0 a1 a2 g0
      go_wp2_with fail
      go_ret
      exact ⟨_, _, _, N, rfl, HO.out, HI.out, Hl.out, HBw.out⟩
    · have HC0 := Lib.hid (insC_0 bd s i m)
      go_wp2_with (first | (refine wpList_load_row rfl 44 (.tmp 5) rfl bS rfl 44 (srow s) (0, 0) _ HX4.out.s undSet rfl (sizeSet2 s) ?_))
      clear g0
      go_loopw [10, 39] (fun vo vi wr => ∃ (c : Nat) (oa : Option Addr) (on oc : Nat) (N : List (List Int)), vo = .slice oa on oc ∧ vi = .int .i64 c ∧ c ≤ 252 ∧ OwnVs w4.heap.size wr (.slice oa on oc) N ∧ InsC bd s i m c N ∧ N.length ≤ c * 252 ^ d ∧ Below w4.heap.size w4 wr) (fun _ vi _ => 252 - (intOf vi).toNat)
      case atStart => exact ⟨0, none, 0, 0, [], rfl, rfl, by omega, World.ownsRow_nil _ _ _ _, HC0.out, by simp, Below.refl _ _⟩
      case round =>
        clear HC0
        generalize wr = wx at *
        obtain ⟨c, oa, on, oc, N, rfl, rfl, hc, ho, hi, hl, hb⟩ := hrel
        have HO := Lib.hid ho
        have HI := Lib.hid hi
        have Hl := Lib.hid hl
        have HB := Lib.hid hb
        clear ho hi hl hb
        by_cases hlt : c < 252
        · have hci : (c : Int) < 252 := by omega
          have hix := fun w' => run_index_arr (P := Try.prog) (t := 44) (e := 4) (n := 252) (cs := srow s) (i := c) undSet (by intro w; kernel_rfl) (by intro w; kernel_rfl) hlt (srow_at hlt) w'
          obtain ⟨uf, ur⟩ := unr_fc hlt
          have HC := Lib.hid (FactR_any c hlt wx)
          have HSk := Lib.hid (fun h2 => HSkip.out c N (by first | rfl | trivial) HI.out h2)
          have HFi := Lib.hid (fun n N' (hs : s c = true) hr2 hl2 hw h' => HFit.out n c N N' (by first | rfl | trivial) hlt hs hr2 hl2 HI.out hw h')
          obtain ⟨⟨r, F⟩, hF⟩ : ∃ x, x = unr c := ⟨_, rfl⟩
          rw [← hF] at HC HSk HFi uf
          simp only at HC HFi
          have hF2 := uf.2.1
          simp only at hF2
          have HF16 := Lib.hid (show ∀ j, j < F.length → 1 ≤ F.getD j 0 ∧ F.getD j 0 ≤ 6 from fun j hj => uf.2.2 _ (by rw [List.getD_eq_getElem?_getD, List.getElem?_eq_getElem hj]; exact List.getElem_mem _))
          clear hF ur uf
          have hixc := hix
          obtain ⟨sb, hsb⟩ : ∃ x, x = s c := ⟨_, rfl⟩
          rw [← hsb] at hixc HSk HFi
          clear hix hsb
          go_wp2_with fail
          refine HC.out.mono ?_
          clear HC
          rintro e w5 ⟨fa, fn, fk, rfl, hfo, hb5⟩
          obtain ⟨w6, hw6⟩ : ∃ x, x = w5.alloc (.cells #[.int .i64 r, .slice fa fn fk] 50) := ⟨_, rfl⟩
          have hb6 : Below w5.heap.size w5 w6 := by rw [hw6]; exact below_alloc _ _
          obtain ⟨bF, hbF⟩ : ∃ x, x = w5.heap.size := ⟨_, rfl⟩
          have HFb := Lib.hid (show w6.heap[bF]? = some (.cells #[.int .i64 r, .slice fa fn fk] 50 (0, 0)) from by rw [hw6, hbF]; exact heap_alloc_new _ _)
          have HFi6 := Lib.hid (hfo.ints.keep hb6)
          have Hfn := Lib.hid (show fn = F.length from by
            obtain ⟨_, _, e⟩ := ints_slice hfo.ints
            injection e)
          have Hb6 := Lib.hid (Below.tr hb5 hb6)
          have HB6 := Lib.hid (Below.tr HB.out Hb6.out)
          have HO6 := Lib.hid (owns_keep HO.out Hb6.out)
          have HX6 := Lib.hid (HX4.out.keep HB6.out)
          have HL6 := Lib.hid (blk_keep2 HL.out HB6.out)
          have Hui6 := Lib.hid (Hui4.out.keep HB6.out)
          have Hvi6 := Lib.hid (Hvi4.out.keep HB6.out)
          have Hxi6 := Lib.hid (Hxi4.out.keep HB6.out)
          have Hw6 := Lib.hid hw6
          have HbF := Lib.hid hbF
          clear hfo hb5 hw6 hb6 hbF
          go_upto_region 11 with fail
          rw [← Hw6.out, ← HbF.out]
          clear Hw6 hixc
          have f0 := aCell HFb.out 0 rfl
          have f1 := aCell HFb.out 1 rfl
          have l1 := aCell HL6.out 1 rfl
          have l2 := aCell HL6.out 2 rfl
          cases sb
          · have HI2 := Lib.hid (HSk.out fun h => (by cases h))
            have Hl2 := Lib.hid (show N.length ≤ (c + 1) * 252 ^ d from Nat.le_trans Hl.out (Nat.mul_le_mul_right _ (Nat.le_succ c)))
            clear HSk HFi
            go_wp2_with fail
            go_roundw
            case rel => exact ⟨c + 1, oa, on, oc, N, rfl, by go_num, by omega, HO6.out, HI2.out, Hl2.out, HB6.out⟩
            case measure => simp [intOf]; omega
          · by_cases hrr : r = s0
            · by_cases hll : fn = xn
              · have q1 : (r != s0) = false := by simp [hrr]
                have q2 : ((fn : Int) != (xn : Int)) = false := by simp [hll]
                have Hrr := Lib.hid hrr
                have Hll := Lib.hid (show X.length = F.length from by rw [← Hfn.out, hll]; exact Hxn.out.symm)
                have hxn2 : xn ≤ 2 := by have := Hfn.out; omega
                have HllE := Lib.hid hll
                have Hm8 := Lib.hid Hm.out.1
                clear hrr hll
                obtain ⟨x0, x1, x2, x3, x4, x5, x6, x7, hme⟩ := eq8r Hm8.out
                have hMM := HX6.out.m
                rw [hme] at hMM
                have m0 : w6.cell? ⟨bM, 0, none⟩ = some (.int .i64 x0) := aCell hMM 0 rfl
                have m1 : w6.cell? ⟨bM, 1, none⟩ = some (.int .i64 x1) := aCell hMM 1 rfl
                have m2 : w6.cell? ⟨bM, 2, none⟩ = some (.int .i64 x2) := aCell hMM 2 rfl
                have m3 : w6.cell? ⟨bM, 3, none⟩ = some (.int .i64 x3) := aCell hMM 3 rfl
                have m4 : w6.cell? ⟨bM, 4, none⟩ = some (.int .i64 x4) := aCell hMM 4 rfl
                have m5 : w6.cell? ⟨bM, 5, none⟩ = some (.int .i64 x5) := aCell hMM 5 rfl
                have m6 : w6.cell? ⟨bM, 6, none⟩ = some (.int .i64 x6) := aCell hMM 6 rfl
                have m7 : w6.cell? ⟨bM, 7, none⟩ = some (.int .i64 x7) := aCell hMM 7 rfl
                obtain ⟨w7, hw7⟩ : ∃ x, x = w6.alloc (.cells #[.int .i64 x0, .int .i64 x1, .int .i64 x2, .int .i64 x3, .int .i64 x4, .int .i64 x5, .int .i64 x6, .int .i64 x7] 80) := ⟨_, rfl⟩
                have hb7 : Below w6.heap.size w6 w7 := by rw [hw7]; exact below_alloc _ _
                obtain ⟨bN, hbN⟩ : ∃ x, x = w6.heap.size := ⟨_, rfl⟩
                have HNb := Lib.hid (show w7.heap[bN]? = some (.cells (vrow m) 80 (0, 0)) from by rw [hme, hw7, hbN]; exact heap_alloc_new _ _)
                have Hb7 := Lib.hid hb7
                have HbNl := Lib.hid (show w6.heap.size ≤ bN from by omega)
                have HF7 := Lib.hid (blk_keep2 HFb.out hb7)
                have HL7 := Lib.hid (blk_keep2 HL6.out hb7)
                have HFW0 := Lib.hid (fitW_0 Hm.out X F)
                have Hw7 := Lib.hid hw7
                have HbN := Lib.hid hbN
                clear hMM hme hw7 hb7 hbN
                go_upto_region 13 with fail
                rw [← Hw7.out, ← HbN.out]
                clear Hw7 m0 m1 m2 m3 m4 m5 m6 m7 f0 f1 l1 l2 q1 q2
                have l2 := aCell HL7.out 2 rfl
                obtain ⟨xa', xb, xo, xc', hxe, _, hxi6, hxc6⟩ := Ints.get Hxi6.out
                have hxe1 : xa' = xa ∧ xc' = xc := by
                  have := hxe
                  rw [show X.length = xn from Hxn.out.symm] at this
                  injection this with a1 a2 a3
                  exact ⟨a1.symm, a3.symm⟩
                obtain ⟨rfl, rfl⟩ := hxe1
                obtain ⟨fa', fb, fo, fc', hfe, _, hfi6, hfc6⟩ := Ints.get HFi6.out
                have hfe1 : fa' = fa ∧ fc' = fk := by
                  have := hfe
                  rw [← Hfn.out] at this
                  injection this with a1 a2 a3
                  exact ⟨a1.symm, a3.symm⟩
                obtain ⟨rfl, rfl⟩ := hfe1
                rw [← Hxn.out] at hxi6
                rw [← Hfn.out] at hfi6
                have HxC := Lib.hid hxc6
                have HfC := Lib.hid hfc6
                have HixX := Lib.hid (run_ix (P := Try.prog) (t := 23) (a := xa') (len := xn) (cap := xc') (b := xb) (off := xo) (s := 1) Try.underlying23 (by intro w; kernel_rfl) hxi6)
                have HixF := Lib.hid (run_ix (P := Try.prog) (t := 23) (a := fa') (len := fn) (cap := fc') (b := fb) (off := fo) (s := 1) Try.underlying23 (by intro w; kernel_rfl) hfi6)
                simp only [Nat.mul_one] at HixX HixF
                clear hxe hfe hxi6 hxc6 hfi6 hfc6
                go_wp2_with fail
                clear l2
                go_loopw [15, 70] (fun vo vi wr => ∃ (ok : Bool) (k : Nat) (n : List Int), vo = .bool ok ∧ vi = .int .i64 k ∧ k ≤ xn ∧ FitW m n X F k ok ∧ wr.heap[bN]? = some (.cells (vrow n) 80 (0, 0)) ∧ Below w6.heap.size w6 wr) (fun _ vi _ => xn - (intOf vi).toNat)
                case atStart => exact ⟨true, 0, m, rfl, rfl, Nat.zero_le _, HFW0.out, HNb.out, Hb7.out⟩
                case round =>
                  clear HFW0 HNb HF7 HL7 Hb7
                  generalize wr = wy at *
                  obtain ⟨ok, k, n, rfl, rfl, hk, hW, hN, hb⟩ := hrel
                  have HW := Lib.hid hW
                  have HN := Lib.hid hN
                  have HBy := Lib.hid hb
                  clear hW hN hb
                  have HFy := Lib.hid (blk_keep2 HFb.out HBy.out)
                  have HLy := Lib.hid (blk_keep2 HL6.out HBy.out)
                  by_cases hkx : k < xn
                  · have hkX : k < X.length := by have := Hxn.out; omega
                    have hkF : k < F.length := by have := Hll.out; omega
                    have hkf : k < fn := by have := HllE.out; omega
                    have cx := Below.keep HBy.out (HxC.out k hkX)
                    have cf := Below.keep HBy.out (HfC.out k hkF)
                    have hixx := HixX.out k
                    have hixf := HixF.out k
                    have e1 : X[k] = X.getD k 0 := by rw [List.getD_eq_getElem?_getD, List.getElem?_eq_getElem hkX]; rfl
                    have e2 : F[k] = F.getD k 0 := by rw [List.getD_eq_getElem?_getD, List.getElem?_eq_getElem hkF]; rfl
                    rw [e1] at cx
                    rw [e2] at cf
                    have hxr := Hat1.out.2.2 (X.getD k 0) (by rw [← e1]; exact List.getElem_mem _)
                    have hyr := HF16.out k hkF
                    have HTest := Lib.hid (fun ok' hv ho => fitW_test (ok' := ok') HW.out hv ho)
                    have HNew := Lib.hid (fun h0 h7 hz => fitW_new HW.out h0 h7 hz fun j hj => HF16.out j (by omega))
                    have hn8 := HW.out.mv.1
                    have Hnr := Lib.hid HW.out.mv.2
                    have f1 := aCell HFy.out 1 rfl
                    obtain ⟨x, hx⟩ : ∃ x, x = X.getD k 0 := ⟨_, rfl⟩
                    obtain ⟨y, hy⟩ : ∃ y, y = F.getD k 0 := ⟨_, rfl⟩
                    rw [← hx] at cx hxr HTest HNew
                    rw [← hy] at cf hyr HTest HNew
                    clear hx hy e1 e2 hkX hkF
                    by_cases c0 : 0 ≤ x
                    · obtain ⟨p, rfl⟩ : ∃ p : Nat, x = p := ⟨x.toNat, by omega⟩
                      have hn0 : ¬ (p : Int) < 0 := by omega
                      have hp8 : (p : Int) < 8 := by omega
                      have hp8n : p < 8 := by omega
                      have cn := aCell HN.out p (vrow_at (by rw [hn8]; exact hp8n))
                      have fz := frozen_of_row wy bN p _ _ HN.out
                      have hnu : numOf n (p : Int) = n.getD p 0 := by rw [numOf_pos c0, Int.toNat_natCast]
                      rw [hnu, Int.toNat_natCast] at HTest
                      rw [Int.toNat_natCast] at HNew
                      have hzr := Hnr.out p hp8n
                      obtain ⟨z, hz⟩ : ∃ z, z = n.getD p 0 := ⟨_, rfl⟩
                      rw [← hz] at cn HTest HNew hzr
                      clear hz hnu
                      by_cases cz : z = 0
                      · have q3 : (z != 0) = false := by simp [cz]
                        have HFW := Lib.hid (HNew.out c0 (by omega) cz)
                        have HN9 := Lib.hid (show (wy.setCell ⟨bN, p, none⟩ (.int .i64 y)).heap[bN]? = some (.cells (vrow (n.set p y)) 80 (0, 0)) from by rw [heap_setCell_same wy bN p _ _ _ HN.out, vrow_set])
                        have HB9 := Lib.hid (show Below w6.heap.size w6 (wy.setCell ⟨bN, p, none⟩ (.int .i64 y)) from HBy.out.setCell HbNl.out _)
                        clear HTest HNew cz
                        go_wp2_with fail
                        clear cn fz cx cf hixx hixf f1
                        generalize wy.setCell ⟨bN, p, none⟩ (.int .i64 y) = wz at *
                        go_roundw
                        case rel => exact ⟨_, k + 1, _, rfl, by go_num, by omega, HFW.out, HN9.out, HB9.out⟩
                        case measure => simp [intOf]; omega
                      · have q3 : (z != 0) = true := by simp [cz]
                        cases ok
                        · have HFW := Lib.hid (HTest.out false (.inr ⟨c0, by omega, cz⟩) ⟨fun h => (by cases h), fun h => by cases h.1⟩)
                          clear HTest HNew cz
                          go_upto_region 20 with fail
                          go_quiet (fail)
                          generalize hwd : World.drewN _ _ = wz at *
                          have hbz : Below wy.heap.size wy wz := by rw [← hwd]; exact ⟨rfl, rfl, rfl, Nat.le_refl _, fun _ _ => rfl⟩
                          have HNz := Lib.hid (blk_keep2 HN.out hbz)
                          have HBz := Lib.hid (Below.tr HBy.out hbz)
                          clear hwd hbz cn fz cx cf hixx hixf f1
                          go_wp2_with fail
                          go_roundw
                          case rel => exact ⟨false, k + 1, n, rfl, by go_num, by omega, HFW.out, HNz.out, HBz.out⟩
                          case measure => simp [intOf]; omega
                        · by_cases cy : y = z
                          · have q4 : (y == z) = true := by simp [cy]
                            have HFW := Lib.hid (HTest.out true (.inr ⟨c0, by omega, cz⟩) ⟨fun _ => ⟨rfl, cy⟩, fun _ => rfl⟩)
                            clear HTest HNew cz cy
                            go_upto_region 20 with fail
                            go_quiet (fail)
                            generalize hwd : World.drewN _ _ = wz at *
                            have hbz : Below wy.heap.size wy wz := by rw [← hwd]; exact ⟨rfl, rfl, rfl, Nat.le_refl _, fun _ _ => rfl⟩
                            have HNz := Lib.hid (blk_keep2 HN.out hbz)
                            have HBz := Lib.hid (Below.tr HBy.out hbz)
                            clear hwd hbz cn fz cx cf hixx hixf f1
                            go_wp2_with fail
                            go_roundw
                            case rel => exact ⟨true, k + 1, n, rfl, by go_num, by omega, HFW.out, HNz.out, HBz.out⟩
                            case measure => simp [intOf]; omega
                          · have q4 : (y == z) = false := by simp [cy]
                            have HFW := Lib.hid (HTest.out false (.inr ⟨c0, by omega, cz⟩) ⟨fun h => (by cases h), fun h => absurd h.2 cy⟩)
                            clear HTest HNew cz cy
                            go_upto_region 20 with fail
                            go_quiet (fail)
                            generalize hwd : World.drewN _ _ = wz at *
                            have hbz : Below wy.heap.size wy wz := by rw [← hwd]; exact ⟨rfl, rfl, rfl, Nat.le_refl _, fun _ _ => rfl⟩
                            have HNz := Lib.hid (blk_keep2 HN.out hbz)
                            have HBz := Lib.hid (Below.tr HBy.out hbz)
                            clear hwd hbz cn fz cx cf hixx hixf f1
                            go_wp2_with fail
                            go_roundw
                            case rel => exact ⟨false, k + 1, n, rfl, by go_num, by omega, HFW.out, HNz.out, HBz.out⟩
                            case measure => simp [intOf]; omega
                    · have hn0 : x < 0 := by omega
                      have hz1 : IntKind.i64.wrap (-x) = -x := w64 _ (by omega)
                      rw [numOf_neg c0] at HTest
                      clear HNew
                      cases ok
                      · have HFW := Lib.hid (HTest.out false (.inl c0) ⟨fun h => (by cases h), fun h => by cases h.1⟩)
                        clear HTest
                        go_wp2_with fail
                        go_roundw
                        case rel => exact ⟨false, k + 1, n, rfl, by go_num, by omega, HFW.out, HN.out, HBy.out⟩
                        case measure => simp [intOf]; omega
                      · by_cases cy : y = -x
                        · have q4 : (y == -x) = true := by rw [beq_iff_eq]; exact cy
                          have HFW := Lib.hid (HTest.out true (.inl c0) ⟨fun _ => ⟨rfl, cy⟩, fun _ => rfl⟩)
                          clear HTest cy
                          go_wp2_with fail
                          go_roundw
                          case rel => exact ⟨true, k + 1, n, rfl, by go_num, by omega, HFW.out, HN.out, HBy.out⟩
                          case measure => simp [intOf]; omega
                        · have q4 : (y == -x) = false := by rw [beq_eq_false_iff_ne]; exact cy
                          have HFW := Lib.hid (HTest.out false (.inl c0) ⟨fun h => (by cases h), fun h => absurd h.2 cy⟩)
                          clear HTest cy
                          go_wp2_with fail
                          go_roundw
                          case rel => exact ⟨false, k + 1, n, rfl, by go_num, by omega, HFW.out, HN.out, HBy.out⟩
                          case measure => simp [intOf]; omega
                  · obtain rfl : k = xn := by omega
                    have HWE := Lib.hid (show FitW m n X F X.length ok from by rw [← Hxn.out]; exact HW.out)
                    have HOy := Lib.hid (owns_keep HO6.out HBy.out)
                    have HB4y := Lib.hid (Below.tr HB6.out HBy.out)
                    cases ok
                    · have HI2 := Lib.hid (HSk.out fun _ t h1 h2 h3 => fitW_no HWE.out h1 h2 (congrArg Prod.snd h3))
                      have Hl2 := Lib.hid (show N.length ≤ (c + 1) * 252 ^ d from Nat.le_trans Hl.out (Nat.mul_le_mul_right _ (Nat.le_succ c)))
                      clear HSk HFi
                      go_wp2_with fail
                      go_roundw
                      case rel => exact ⟨c + 1, oa, on, oc, N, rfl, by go_num, by omega, HOy.out, HI2.out, Hl2.out, HB4y.out⟩
                      case measure => simp [intOf]; omega
                    · have HXy := Lib.hid (HX6.out.keep HBy.out)
                      have a0 := aCell HXy.out.a 0 rfl
                      have a1 := aCell HXy.out.a 1 rfl
                      have a2 := aCell HXy.out.a 2 rfl
                      have HC := Lib.hid (IH.out (i + 1) n (.slice ua un uc) (.slice va bn vc) wy Hid1.out HW.out.mv (Hui6.out.keep HBy.out) (Hvi6.out.keep HBy.out))
                      rw [show ((i + 1 : Nat) : Int) = (i : Int) + 1 from by omega] at HC
                      go_wp2_with (first | (refine wpList_load_row rfl 44 (.tmp 5) rfl bS rfl 44 (srow s) (0, 0) _ HXy.out.s undSet rfl (sizeSet2 s) ?_) | (refine wpList_load_row rfl 80 (.tmp 14) rfl bN rfl 80 (vrow n) (0, 0) _ HN.out undV8 rfl (sizeV8 HW.out.mv.1) ?_))
                      refine HC.out.mono ?_
                      clear HC a0 a1 a2
                      rintro e w8 ⟨ra, rn, rc, N', rfl, hO', hI', hl', hb8⟩
                      have HI2 := Lib.hid (HFi.out n N' (by first | rfl | trivial) Hrr.out.symm Hll.out HWE.out hI')
                      have HO8 := Lib.hid (owns_keep HOy.out hb8)
                      have HB8 := Lib.hid (Below.tr HB4y.out hb8)
                      have HS8 := Lib.hid (Rd.src (owns_rd hO'))
                      have hrn : rn = N'.length := by
                        rcases hO'.2 with ⟨h1, h2⟩ | ⟨_, _, _, h1, _⟩
                        · injection h1 with _ h1 _; omega
                        · injection h1
                      have hp16 : 252 ^ d ≤ 63504 := by
                        match d, hd2' with
                        | 0, _ => decide
                        | 1, _ => decide
                        | 2, _ => decide
                      have hll2 : (N ++ N').length ≤ (c + 1) * 252 ^ d := by
                        rw [List.length_append, Nat.add_mul, Nat.one_mul]
                        exact Nat.add_le_add Hl.out hl'
                      have hmul : (c + 1) * 252 ^ d ≤ 252 * 63504 := Nat.mul_le_mul (by omega) hp16
                      have Hll2 := Lib.hid hll2
                      have hln : N.length + N'.length ≤ 100000000000 := by
                        rw [List.length_append] at hll2; omega
                      have Hrn := Lib.hid hrn
                      clear hO' hI' hl' hb8 hp16 hmul hrn hll2
                      go_wp2_with (first | (at_builtin; refine append_srcL rfl (.tmp 115) (.tmp 121) 155 rfl elemV8 rfl HO8.out rfl HS8.out (cVr_one N') hln HB8.out.size ?_; intro v9 w9 h91 h92 h93))
                      obtain ⟨qa, qn, qk, rfl⟩ := row_slice h91
                      have HO9 := Lib.hid (show OwnVs w4.heap.size w9 (.slice qa qn qk) (N ++ N') from by
                        unfold OwnVs
                        rw [cVr_app, List.length_append]; exact h91)
                      have HB9 := Lib.hid (HB8.out.trans h92)
                      clear h91 h92 h93 hln
                      go_wp2_with fail
                      go_roundw
                      case rel => exact ⟨c + 1, qa, qn, qk, N ++ N', rfl, by go_num, by omega, HO9.out, HI2.out, Hll2.out, HB9.out⟩
                      case measure => simp [intOf]; omega
              · have q1 : (r != s0) = false := by simp [hrr]
                have q2 : ((fn : Int) != (xn : Int)) = true := by rw [bne_iff_ne]; omega
                have HI2 := Lib.hid (HSk.out fun _ t _ _ h3 => by
                  have := congrArg (fun a : RAt => a.2.length) h3
                  simp only [gnd, List.length_map] at this
                  have := Hxn.out
                  have := Hfn.out
                  omega)
                have Hl2 := Lib.hid (show N.length ≤ (c + 1) * 252 ^ d from Nat.le_trans Hl.out (Nat.mul_le_mul_right _ (Nat.le_succ c)))
                clear HSk HFi hrr hll
                go_wp2_with fail
                go_roundw
                case rel => exact ⟨c + 1, oa, on, oc, N, rfl, by go_num, by omega, HO6.out, HI2.out, Hl2.out, HB6.out⟩
                case measure => simp [intOf]; omega
            · have q1 : (r != s0) = true := by rw [bne_iff_ne]; exact hrr
              have HI2 := Lib.hid (HSk.out fun _ t _ _ h3 => hrr (congrArg Prod.fst h3).symm)
              have Hl2 := Lib.hid (show N.length ≤ (c + 1) * 252 ^ d from Nat.le_trans Hl.out (Nat.mul_le_mul_right _ (Nat.le_succ c)))
              clear HSk HFi hrr
              go_wp2_with fail
              go_roundw
              case rel => exact ⟨c + 1, oa, on, oc, N, rfl, by go_num, by omega, HO6.out, HI2.out, Hl2.out, HB6.out⟩
              case measure => simp [intOf]; omega
        · obtain rfl : c = 252 := by omega
          have HE := Lib.hid (HEnd.out N (by first | rfl | trivial) HI.out)
          have HOe := Lib.hid (owns_mono HO.out HB4.out.size)
          have Hl2 := Lib.hid (show N.length ≤ 252 ^ (d + 1) from by
            have := Hl.out
            rw [Nat.pow_succ, Nat.mul_comm]; exact this)
          have HBe := Lib.hid (Below.tr HB4.out HB.out)
          go_wp2_with fail
          go_ret
          exact ⟨_, _, _, N, rfl, HOe.out, HE.out, Hl2.out, HBe.out⟩
#print axioms instR_any
theorem cVr_at : ∀ {N : List (List Int)} (_ : ∀ v, v ∈ N → v.length = 8) {i : Nat} (_ : i < N.length) {j : Nat} (_ : j < 8), (cVr N)[i * 8 + j]? = some (.int .i64 ((N.getD i []).getD j 0))
  | x :: N, h, 0, _, j, hj => by
    have hx := h x (by simp)
    have e : cVr (x :: N) = x.map (Value.int .i64) ++ cVr N := rfl
    rw [e, Nat.zero_mul, Nat.zero_add, List.getElem?_append_left (by rw [List.length_map]; omega), List.getElem?_map, List.getElem?_eq_getElem (by omega)]
    simp [List.getD_eq_getElem?_getD, List.getElem?_eq_getElem (show j < x.length by omega)]
  | x :: N, h, i + 1, hi, j, hj => by
    have hx := h x (by simp)
    have e : cVr (x :: N) = x.map (Value.int .i64) ++ cVr N := rfl
    rw [e, List.getElem?_append_right (by rw [List.length_map]; omega), List.length_map, show (i + 1) * 8 + j - x.length = i * 8 + j by omega, cVr_at (fun v hv => h v (by simp [hv])) (by simpa using hi) hj]
    rfl
/-- how many of the first n are not in the set -/
def cntN (b : Nat → Bool) : Nat → Nat
  | 0 => 0
  | n + 1 => cntN b n + if b n = true then 0 else 1
theorem cntN_le {b b' : Nat → Bool} (h : ∀ i, b i = true → b' i = true) : ∀ n, cntN b' n ≤ cntN b n
  | 0 => Nat.le_refl _
  | n + 1 => by
    have ih := cntN_le h n
    unfold cntN
    by_cases e : b n = true
    · rw [if_pos e, if_pos (h n e)]; omega
    · rw [if_neg e]; split <;> omega
theorem cntN_lt {b b' : Nat → Bool} (h : ∀ i, b i = true → b' i = true) {c : Nat} (h0 : ¬ b c = true) (h1 : b' c = true) : ∀ n, c < n → cntN b' n < cntN b n
  | 0, hc => absurd hc (Nat.not_lt_zero _)
  | n + 1, hc => by
    unfold cntN
    by_cases e : c = n
    · subst e
      have ih := cntN_le h c
      rw [if_neg h0, if_pos h1]; omega
    · have ih := cntN_lt h h0 h1 n (by omega)
      by_cases e2 : b n = true
      · rw [if_pos e2, if_pos (h n e2)]; omega
      · rw [if_neg e2]; split <;> omega
/-- the same, read from a block -/
def cntW (w : World) (g : Nat) : Nat → Nat
  | 0 => 0
  | n + 1 => cntW w g n + match w.cell? ⟨g, n, none⟩ with | some (.bool true) => 0 | _ => 1
theorem cntW_eq {w : World} {g : Nat} {b : Nat → Bool} (h : SetB w g b) : ∀ n, n ≤ 252 → cntW w g n = cntN b n
  | 0, _ => rfl
  | n + 1, hn => by
    unfold cntW cntN
    rw [cntW_eq h n (by omega), h.at (by omega)]
    cases b n <;> rfl
theorem bup_up {b : Nat → Bool} {c i : Nat} (h : b i = true) : bup b c true i = true := by
  unfold bup; split <;> simp_all
/-- what follows, where the sets are rows of bools -/
def Cnq (l : List RRule) (s0 k : Nat → Bool) : RAt → Prop := Cons (fun r => r ∈ l) (fun f => FcR f ∧ s0 (rcd f).toNat = true) (fun f => k (rcd f).toNat = true)
structure Cq (l : List RRule) (s0 k b : Nat → Bool) : Prop where
  base : ∀ c, c < 252 → s0 c = true → b c = true
  snd : ∀ c, c < 252 → b c = true → Cnq l s0 k (unr c)
theorem cq_0 (l : List RRule) (s0 k : Nat → Bool) : Cq l s0 k s0 := ⟨fun _ _ h => h, fun c hc h => .given ⟨(unr_fc hc).1, by rw [(unr_fc hc).2, Int.toNat_natCast]; exact h⟩⟩
/-- a rule is met: its instances have their heads in the set -/
def ClR (k b : Nat → Bool) (r : RRule) : Prop := ∀ t, Num6 r t → (∀ x, x ∈ r.2 → x.1 = false → b (rcd (gnd t x.2)).toNat = true) → (∀ x, x ∈ r.2 → x.1 = true → ¬ k (rcd (gnd t x.2)).toNat = true) → b (rcd (gnd t r.1)).toNat = true
structure Crd (l : List RRule) (s0 k b0 b : Nat → Bool) (C : Bool) (kk : Nat) : Prop where
  q : Cq l s0 k b
  up : C = false → b = b0 ∧ ∀ r, r ∈ l.take kk → ClR k b0 r
  gr : C = true → cntN b 252 < cntN b0 252
  mo : ∀ i, b0 i = true → b i = true
theorem crd_0 {l : List RRule} {s0 k b : Nat → Bool} (h : Cq l s0 k b) : Crd l s0 k b b false 0 := ⟨h, fun _ => ⟨rfl, fun r hr => by rw [List.take_zero] at hr; cases hr⟩, fun h => (by cases h), fun _ h => h⟩
/-- within a rule: of its instances N, found in b1, the first j are met -/
structure Cin (l : List RRule) (s0 k b0 b1 b : Nat → Bool) (C : Bool) (kk : Nat) (N : List (List Int)) (j : Nat) : Prop where
  q : Cq l s0 k b
  up : C = false → b = b0 ∧ b1 = b0 ∧ (∀ r, r ∈ l.take kk → ClR k b0 r) ∧ ∀ n, n ∈ N.take j → (∀ x, x ∈ (rR l kk).2 → x.1 = true → ¬ k (rcd (gnd n x.2)).toNat = true) → b0 (rcd (gnd n (rR l kk).1)).toNat = true
  gr : C = true → cntN b 252 < cntN b0 252
  mo : ∀ i, b0 i = true → b i = true
  m1 : ∀ i, b1 i = true → b i = true
theorem cin_0 {l : List RRule} {s0 k b0 b : Nat → Bool} {C : Bool} {kk : Nat} (h : Crd l s0 k b0 b C kk) (N : List (List Int)) : Cin l s0 k b0 b b C kk N 0 :=
  ⟨h.q, fun hc => ⟨(h.up hc).1, (h.up hc).1, (h.up hc).2, fun n hn => by rw [List.take_zero] at hn; cases hn⟩, h.gr, h.mo, fun _ h => h⟩
/-- all variables of a rule stand in literals without Not, so an instance has numbers for them -/
theorem ins_num {r : RRule} (hs : SafeR r) (hr : ∀ b, b ∈ r.2 → AtR b.2) (hh : AtR r.1) {s : Nat → Bool} {n : List Int} (hp : ∀ b, b ∈ r.2 → PosIn s n b) : Num6 r n := fun t ht => by
  have hrg : -6 ≤ t ∧ t ≤ 7 := by
    rcases ht with ht | ⟨b, hb, ht⟩
    · exact hh.2.2 t ht
    · exact (hr b hb).2.2 t ht
  by_cases c : 0 ≤ t
  · obtain ⟨b, hb, h0, hm⟩ := hs t c (by omega) ht
    exact ((hp b hb h0).1).2.2 _ (List.mem_map.2 ⟨t, hm, rfl⟩)
  · rw [numOf_neg c]; omega
theorem gnd_same {r : RRule} {n t : List Int} (h : ∀ x, VarR r x → numOf n x = numOf t x) : gnd n r.1 = gnd t r.1 ∧ ∀ b, b ∈ r.2 → gnd n b.2 = gnd t b.2 :=
  ⟨Prod.ext rfl (List.map_congr_left fun x hx => h x (.inl hx)), fun b hb => Prod.ext rfl (List.map_congr_left fun x hx => h x (.inr ⟨b, hb, hx⟩))⟩
/-- eight numbers for any -/
def norm8 (m : List Int) : List Int := (List.range 8).map fun i => if 1 ≤ m.getD i 0 ∧ m.getD i 0 ≤ 6 then m.getD i 0 else 0
theorem norm8_at (m : List Int) {i : Nat} (h : i < 8) : (norm8 m).getD i 0 = if 1 ≤ m.getD i 0 ∧ m.getD i 0 ≤ 6 then m.getD i 0 else 0 := by
  unfold norm8
  rw [List.getD_eq_getElem?_getD, List.getElem?_map, List.getElem?_range h]; rfl
theorem norm8_mv (m : List Int) : Mv8 (norm8 m) := ⟨by simp [norm8], fun i hi => by rw [norm8_at m hi]; split <;> omega⟩
theorem zero8r : Mv8 [0, 0, 0, 0, 0, 0, 0, 0] ∧ ∀ t, Comp [0, 0, 0, 0, 0, 0, 0, 0] t :=
  ⟨⟨rfl, fun i hi => by match i, hi with | 0, _ | 1, _ | 2, _ | 3, _ | 4, _ | 5, _ | 6, _ | 7, _ => exact ⟨Int.le_refl _, by decide⟩⟩, fun t i hi h => absurd (by match i, hi with | 0, _ | 1, _ | 2, _ | 3, _ | 4, _ | 5, _ | 6, _ | 7, _ => rfl) h⟩
/-- the instances of a rule say all that the rule says -/
theorem clR_of {k b : Nat → Bool} {r : RRule} (hs : SafeR r) (hr : ∀ x, x ∈ r.2 → AtR x.2) (hh : AtR r.1) {N : List (List Int)} (hN : InsN r.2 b 0 [0, 0, 0, 0, 0, 0, 0, 0] N) (hc : ∀ n, n ∈ N → (∀ x, x ∈ r.2 → x.1 = true → ¬ k (rcd (gnd n x.2)).toNat = true) → b (rcd (gnd n r.1)).toNat = true) : ClR k b r := fun m hm hp hn => by
  have h7 : ∀ x, VarR r x → x ≤ 7 := fun x hx => by
    rcases hx with hx | ⟨y, hy, hx⟩
    · exact (hh.2.2 x hx).2
    · exact ((hr y hy).2.2 x hx).2
  have hnm : ∀ x, VarR r x → numOf (norm8 m) x = numOf m x := fun x hx => by
    by_cases c : 0 ≤ x
    · have h16 := hm x hx
      rw [numOf_pos c] at h16
      rw [numOf_pos c, numOf_pos c, norm8_at m (by have := h7 x hx; omega), if_pos h16]
    · rw [numOf_neg c, numOf_neg c]
  have hg := gnd_same hnm
  have hpos : ∀ x, x ∈ r.2 → PosIn b (norm8 m) x := fun x hx h0 => by
    rw [hg.2 x hx]
    exact ⟨gnd_fc (hr x hx) fun t ht => hm t (.inr ⟨x, hx, ht⟩), hp x hx h0⟩
  obtain ⟨n, hn1, hn2⟩ := hN.all (norm8 m) (norm8_mv m) (zero8r.2 _) (fun x hx => hpos x (by rwa [List.drop_zero] at hx))
  obtain ⟨nv, _, np⟩ := hN.ok n hn1
  rw [List.drop_zero] at np
  have hnum := ins_num hs hr hh np
  have hsame : ∀ x, VarR r x → numOf n x = numOf (norm8 m) x := fun x hx => by
    by_cases c : 0 ≤ x
    · have h16 := hnum x hx
      rw [numOf_pos c] at h16
      rw [numOf_pos c, numOf_pos c]
      exact hn2 _ (by have := h7 x hx; omega) (by omega)
    · rw [numOf_neg c, numOf_neg c]
  have hg2 := gnd_same fun x hx => (hsame x hx).trans (hnm x hx)
  have := hc n hn1 fun x hx h1 => by rw [hg2.2 x hx]; exact hn x hx h1
  rwa [hg2.1] at this
theorem cin_end {l : List RRule} {s0 k b0 b1 b : Nat → Bool} {C : Bool} {kk : Nat} {N : List (List Int)} (hk : kk < l.length) (hs : SafeR (rR l kk)) (hr : ∀ x, x ∈ (rR l kk).2 → AtR x.2) (hh : AtR (rR l kk).1) (hN : InsN (rR l kk).2 b1 0 [0, 0, 0, 0, 0, 0, 0, 0] N) (h : Cin l s0 k b0 b1 b C kk N N.length) : Crd l s0 k b0 b C (kk + 1) := by
  refine ⟨h.q, fun hc => ?_, h.gr, h.mo⟩
  obtain ⟨e1, e2, e3, e4⟩ := h.up hc
  refine ⟨e1, fun r hr2 => ?_⟩
  rw [List.take_succ_eq_append_getElem hk, ← rR_get hk] at hr2
  rcases List.mem_append.1 hr2 with hr2 | hr2
  · exact e3 r hr2
  · rw [List.mem_singleton.1 hr2]
    rw [e2] at hN
    exact clR_of hs hr hh hN fun n hn => e4 n (by rw [List.take_length]; exact hn)
theorem take_nat {N : List (List Int)} {j : Nat} (hj : j < N.length) : N.take (j + 1) = N.take j ++ [N.getD j []] := by
  rw [List.take_succ_eq_append_getElem hj, List.getD_eq_getElem?_getD, List.getElem?_eq_getElem hj]; rfl
/-- an instance that adds nothing -/
theorem cin_skip {l : List RRule} {s0 k b0 b1 b : Nat → Bool} {C : Bool} {kk : Nat} {N : List (List Int)} {j : Nat} (hj : j < N.length) (h : Cin l s0 k b0 b1 b C kk N j) (hn : (∀ x, x ∈ (rR l kk).2 → x.1 = true → ¬ k (rcd (gnd (N.getD j []) x.2)).toNat = true) → b (rcd (gnd (N.getD j []) (rR l kk).1)).toNat = true) : Cin l s0 k b0 b1 b C kk N (j + 1) := by
  refine ⟨h.q, fun hc => ?_, h.gr, h.mo, h.m1⟩
  obtain ⟨e1, e2, e3, e4⟩ := h.up hc
  refine ⟨e1, e2, e3, fun n hn2 => ?_⟩
  rw [take_nat hj] at hn2
  rcases List.mem_append.1 hn2 with hn2 | hn2
  · exact e4 n hn2
  · rw [List.mem_singleton.1 hn2, ← e1]; exact hn
/-- an instance that adds its head -/
theorem cin_add {l : List RRule} {s0 k b0 b1 b : Nat → Bool} {C : Bool} {kk : Nat} {N : List (List Int)} {j : Nat} (hk : kk < l.length) (hj : j < N.length) (hs : SafeR (rR l kk)) (hr : ∀ x, x ∈ (rR l kk).2 → AtR x.2) (hh : AtR (rR l kk).1) (hN : InsN (rR l kk).2 b1 0 [0, 0, 0, 0, 0, 0, 0, 0] N) (h : Cin l s0 k b0 b1 b C kk N j)
    (hn : ∀ x, x ∈ (rR l kk).2 → x.1 = true → ¬ k (rcd (gnd (N.getD j []) x.2)).toNat = true) {c : Nat} (hc : rcd (gnd (N.getD j []) (rR l kk).1) = (c : Int)) (hb : ¬ b c = true) : Cin l s0 k b0 b1 (bup b c true) true kk N (j + 1) := by
  have hmem : rR l kk ∈ l := by rw [rR_get hk]; exact List.getElem_mem hk
  have hNm : N.getD j [] ∈ N := by rw [List.getD_eq_getElem?_getD, List.getElem?_eq_getElem hj]; exact List.getElem_mem _
  obtain ⟨_, _, np⟩ := hN.ok _ hNm
  rw [List.drop_zero] at np
  have hnum := ins_num hs hr hh np
  have hfc : FcR (gnd (N.getD j []) (rR l kk).1) := gnd_fc hh fun t ht => hnum t (.inl ht)
  have hrg := rcd_range hfc
  have hcc : c < 252 := by omega
  have hlt : cntN (bup b c true) 252 < cntN b 252 := cntN_lt (fun i hi => bup_up hi) hb (by unfold bup; rw [if_pos rfl]) 252 hcc
  have hle : cntN b 252 ≤ cntN b0 252 := cntN_le h.mo 252
  refine ⟨⟨fun i hi h0 => bup_up (h.q.base i hi h0), fun i hi h0 => ?_⟩, fun hc => (by cases hc), fun _ => by omega, fun i hi => bup_up (h.mo i hi), fun i hi => bup_up (h.m1 i hi)⟩
  by_cases e : i = c
  · have hu : unr i = gnd (N.getD j []) (rR l kk).1 := by
      have := unr_rcd hfc
      rw [hc, Int.toNat_natCast] at this
      rw [e]; exact this
    rw [hu]
    refine Cons.step (rs := fun r => r ∈ l) hmem hnum (fun x hx hx0 => ?_) fun x hx hx1 => hn x hx hx1
    obtain ⟨f1, f2⟩ := np x hx hx0
    have hrx := rcd_range f1
    have h2 := h.q.snd _ (by omega) (h.m1 _ f2)
    rwa [unr_rcd f1] at h2
  · refine h.q.snd i hi ?_
    unfold bup at h0
    rwa [if_neg e] at h0
/-- in the end the set is what follows -/
theorem crd_end {l : List RRule} (hl : RuV l) {s0 k b : Nat → Bool} (hq : Cq l s0 k b) (hc : ∀ r, r ∈ l → ClR k b r) : ∀ c, c < 252 → (b c = true ↔ ∃ f, Cnq l s0 k f ∧ rcd f = (c : Int)) := fun c hcc => by
  constructor
  · intro h
    exact ⟨unr c, hq.snd c hcc h, (unr_fc hcc).2⟩
  · rintro ⟨f, hf, e⟩
    have key : FcR f ∧ b (rcd f).toNat = true := by
      refine Cons.least (C := fun f => FcR f ∧ b (rcd f).toNat = true) (fun f hf => ⟨hf.1, hq.base _ (by have := rcd_range hf.1; omega) hf.2⟩) (fun r m h1 h2 h3 h4 => ?_) hf
      exact ⟨gnd_fc (hl r h1).1 fun t ht => h2 t (.inl ht), hc r h1 m h2 (fun x hx h0 => (h3 x hx h0).2) h4⟩
    rw [e, Int.toNat_natCast] at key
    exact key.2
#print axioms crd_end
theorem vs_get {w : World} {v : Value} {N : List (List Int)} (h : Rd w v 8 N.length (cVr N)) (h8 : ∀ m, m ∈ N → m.length = 8) : ∃ (a : Option Addr) (b off cap : Nat), v = .slice a N.length cap ∧ N.length ≤ 9223372036854775807 ∧ (0 < N.length → a = some ⟨b, off, none⟩) ∧ ∀ i j, i < N.length → j < 8 → w.cell? ⟨b, off + i * 8 + j, none⟩ = some (.int .i64 ((N.getD i []).getD j 0)) := by
  obtain ⟨h3, h4, a, b, off, cap, h5, h6, h7⟩ := h
  refine ⟨a, b, off, cap, h5, h4, h6.1, fun i j hi hj => ?_⟩
  have hx := cVr_at h8 hi hj
  obtain ⟨hlt, he⟩ := List.getElem?_eq_some_iff.1 hx
  have := h7 (i * 8 + j) hlt
  rw [Nat.add_assoc, this, he]
/-- the blocks of a call -/
structure Kb (w wr : World) (g4 g5 g6 : Nat) (q kq : Nat → Bool) : Prop where
  b : Below w.heap.size w wr
  s : SetB wr g4 q
  k : SetB wr g5 kq
  z : SetB wr g6 (fun _ => false)
  d : g4 = w.heap.size ∧ g5 = w.heap.size + 1 ∧ g6 = w.heap.size + 1 + 1
theorem Kb.keep {w wr w' : World} {g4 g5 g6 : Nat} {b k : Nat → Bool} (h : Kb w wr g4 g5 g6 b k) (hb : Below wr.heap.size wr w') : Kb w w' g4 g5 g6 b k := ⟨Below.tr h.b hb, h.s.keep hb, h.k.keep hb, h.z.keep hb, h.d⟩
theorem Kb.set {w wr : World} {g4 g5 g6 : Nat} {b k : Nat → Bool} (h : Kb w wr g4 g5 g6 b k) (c : Nat) : Kb w (wr.setCell ⟨g4, c, none⟩ (.bool true)) g4 g5 g6 (bup b c true) k := by
  obtain ⟨d1, d2, d3⟩ := h.d
  exact ⟨h.b.setCell (show w.heap.size ≤ g4 from by omega) _, h.s.set c true, (heap_setCell_other wr ⟨g4, c, none⟩ g5 _ (by show g5 ≠ g4; omega)).trans h.k, (heap_setCell_other wr ⟨g4, c, none⟩ g6 _ (by show g6 ≠ g4; omega)).trans h.z, h.d⟩
theorem vs_set {B : Nat} {wr : World} {v : Value} {N : List (List Int)} {g4 : Nat} {b : Nat → Bool} (h : OwnVs B wr v N) (hs : SetB wr g4 b) (c : Nat) (x : Value) : OwnVs B (wr.setCell ⟨g4, c, none⟩ x) v N :=
  World.ownsRow.kept h (grown_setCell wr g4 c x) (rowT_apart h hs (by decide))
set_option maxRecDepth 100000 in
set_option maxHeartbeats 16000000 in
theorem ConsqR_any (l : List RRule) (hl : RuV l) (hs : ∀ r, r ∈ l → SafeR r) (hb3 : ∀ r, r ∈ l → r.2.length ≤ 3) (s0 k : Nat → Bool) (rl : Value) (w : World) (hrl : Rules w rl l) :
    Calls Try.prog 78 #[rl, .agg (srow s0), .agg (srow k)] w fun e w' => ∃ b : Nat → Bool, e = .returned (.agg (srow b)) ∧ (∀ c, c < 252 → (b c = true ↔ ∃ f, Cnq l s0 k f ∧ rcd f = (c : Int))) ∧ Below w.heap.size w w' := by
  obtain ⟨a, b0, off, cap, rfl, hle, hia, _, hcs⟩ := Rules.get hrl
  obtain ⟨n, hn⟩ : ∃ x, x = l.length := ⟨_, rfl⟩
  have Hn := Lib.hid hn
  rw [← hn] at hle hia hcs ⊢
  have Hix := Lib.hid (run_ix (P := Try.prog) (t := 22) (a := a) (len := n) (cap := cap) (b := b0) (off := off) (s := 3) Try.underlying22 (by intro w; kernel_rfl) hia)
  have Hc := Lib.hid hcs
  have Hl := Lib.hid hl
  have Hs := Lib.hid hs
  have Hb3 := Lib.hid hb3
  obtain ⟨w1, hw1⟩ : ∃ x, x = w.alloc (.cells (srow s0) 44) := ⟨_, rfl⟩
  obtain ⟨w2, hw2⟩ : ∃ x, x = w1.alloc (.cells (srow k) 44) := ⟨_, rfl⟩
  obtain ⟨w3, hw3⟩ : ∃ x, x = w2.alloc (.cells (srow fun _ => false) 44) := ⟨_, rfl⟩
  have k1 : Below w.heap.size w w1 := by rw [hw1]; exact below_alloc _ _
  have k2 : Below w1.heap.size w1 w2 := by rw [hw2]; exact below_alloc _ _
  have k3 : Below w2.heap.size w2 w3 := by rw [hw3]; exact below_alloc _ _
  obtain ⟨g4, hg4⟩ : ∃ x, x = w.heap.size := ⟨_, rfl⟩
  obtain ⟨g5, hg5⟩ : ∃ x, x = w.heap.size + 1 := ⟨_, rfl⟩
  obtain ⟨g6, hg6⟩ : ∃ x, x = w.heap.size + 1 + 1 := ⟨_, rfl⟩
  have z1 : w1.heap.size = w.heap.size + 1 := by rw [hw1]; simp
  have z2 : w2.heap.size = w.heap.size + 1 + 1 := by rw [hw2]; simp; omega
  have HK0 := Lib.hid (show Kb w w3 g4 g5 g6 s0 k from ⟨Below.tr k1 (Below.tr k2 k3), SetB.keep (SetB.keep (by unfold SetB; rw [hw1, hg4]; exact heap_alloc_new _ _) k2) k3, SetB.keep (by unfold SetB; rw [hw2, hg5, ← z1]; exact heap_alloc_new _ _) k3, by unfold SetB; rw [hw3, hg6, ← z2]; exact heap_alloc_new _ _, hg4, hg5, hg6⟩)
  have Hw := Lib.hid (show w3 = ((w.alloc (.cells (srow s0) 44)).alloc (.cells (srow k) 44)).alloc (.cells (srow fun _ => false) 44) from by rw [hw3, hw2, hw1])
  have Hg4 := Lib.hid hg4
  have Hg5 := Lib.hid hg5
  have Hg6 := Lib.hid hg6
  clear hrl hia hcs hn hl hs hb3 hw1 hw2 hw3 k1 k2 k3 hg4 hg5 hg6 z1 z2
  go_enter Try.func78, Try.ntmps78
  go_upto_region 1 with fail
  rw [zero_srow, ← Hw.out, ← Hg6.out, ← Hg5.out, ← Hg4.out]
  clear Hw
  go_wp2_with fail
  go_loopw [7] (fun vc wr => ∃ (C : Bool) (b : Nat → Bool), vc = .bool C ∧ Kb w wr g4 g5 g6 b k ∧ Cq l s0 k b ∧ (C = false → ∀ r, r ∈ l → ClR k b r)) (fun vc wr => cntW wr g4 252 * 2 + (match vc with | .bool true => 1 | _ => 0))
  case atStart => exact ⟨true, s0, rfl, HK0.out, cq_0 l s0 k, fun h => (by cases h)⟩
  case round =>
    clear HK0
    generalize wr = wx at *
    obtain ⟨C, b, rfl, hK, hq, hC⟩ := hrel
    cases C
    · have HK := Lib.hid hK
      have HE := Lib.hid (crd_end Hl.out hq (hC rfl))
      have HG := Lib.hid (setRow_heap wx g6 _ (srow b) _ _ hK.z)
      have HB9 := Lib.hid (below_setRow (b := g6) hK.b (by have := hK.d.2.2; omega) (srow b))
      have hz : (srow fun _ => false).size = (srow b).size := by rw [srow_size, srow_size]
      clear hK hq hC
      go_wp2_with (first | (refine wpList_load_row rfl 44 (.tmp 4) rfl g4 rfl 44 (srow b) (0, 0) _ HK.out.s undSet rfl (sizeSet2 b) ?_) | (refine wpList_store_row rfl 44 (.tmp 6) (.tmp 47) rfl g6 (srow b) rfl rfl 44 _ HK.out.z (sizeSet2 b) hz (srow_one b) ?_))
      generalize wx.setRow g6 (srow b) = w9 at *
      refine bodyPost_ret (results_cell_row Try.results78 _ _ g6 44 _ (0, 0) _ rfl HG.out undSet rfl (sizeSet2 b)) rfl ?_
      exact ⟨b, rfl, HE.out, HB9.out⟩
    · have HK := Lib.hid hK
      have HR0 := Lib.hid (crd_0 hq)
      have HM := Lib.hid (cntW_eq hK.s 252 (Nat.le_refl _))
      clear hK hq hC
      obtain ⟨M, hM⟩ : ∃ x, x = cntW wx g4 252 := ⟨_, rfl⟩
      rw [← hM] at HM ⊢
      clear hM
      go_wp2_with fail
      go_loopw [7, 16] (fun vc vi wr => ∃ (C : Bool) (kk : Nat) (b' : Nat → Bool), vc = .bool C ∧ vi = .int .i64 kk ∧ kk ≤ n ∧ Kb w wr g4 g5 g6 b' k ∧ Crd l s0 k b b' C kk) (fun _ vi _ => n - (intOf vi).toNat)
      case atStart => exact ⟨false, 0, b, rfl, rfl, Nat.zero_le _, HK.out, HR0.out⟩
      case round =>
        clear HK HR0
        generalize wr = wy at *
        obtain ⟨C, kk, b', rfl, rfl, hk, hK, hR⟩ := hrel
        have HK := Lib.hid hK
        have HR := Lib.hid hR
        clear hK hR
        by_cases hlt : kk < n
        · obtain ⟨ua, uc, va, vc, hc0, hc1, hc2, hui, hvi⟩ := Hc.out kk hlt
          have hc0 := Below.keep HK.out.b hc0
          have hc1 := Below.keep HK.out.b hc1
          have hc2 := Below.keep HK.out.b hc2
          have hixk := Hix.out kk
          have hlt2 : kk < l.length := by rw [← Hn.out]; exact hlt
          have hMr : rR l kk ∈ l := by rw [rR_get hlt2]; exact List.getElem_mem hlt2
          have HSf := Lib.hid (Hs.out _ hMr)
          have HAt := Lib.hid (Hl.out _ hMr)
          have h3 := Hb3.out _ hMr
          have HEnd := Lib.hid (fun b1 b2 C N hN (h : Cin l s0 k b b1 b2 C kk N N.length) => cin_end hlt2 HSf.out HAt.out.2 HAt.out.1 hN h)
          have HSkip := Lib.hid (fun b1 b2 C N j hj (h : Cin l s0 k b b1 b2 C kk N j) hn => cin_skip hj h hn)
          have HAdd := Lib.hid (fun b1 b2 C N j c hj hN (h : Cin l s0 k b b1 b2 C kk N j) hn hc hb => cin_add (c := c) hlt2 hj HSf.out HAt.out.2 HAt.out.1 hN h hn hc hb)
          have HNum := Lib.hid (fun (s : Nat → Bool) m (hp : ∀ x, x ∈ (rR l kk).2 → PosIn s m x) => ins_num HSf.out HAt.out.2 HAt.out.1 hp)
          obtain ⟨⟨⟨hr, A⟩, bd⟩, hrr⟩ : ∃ x, x = rR l kk := ⟨_, rfl⟩
          rw [← hrr] at hc0 hc1 hc2 hui hvi HAt h3 HEnd HSkip HAdd HNum
          simp only at hc0 hc1 hc2 hui hvi h3
          obtain ⟨un, hun⟩ : ∃ x, x = A.length := ⟨_, rfl⟩
          obtain ⟨bn, hbn⟩ : ∃ x, x = bd.length := ⟨_, rfl⟩
          have Hbn := Lib.hid hbn
          rw [← hun] at hc1 hui
          rw [← hbn] at hc2 hvi
          obtain ⟨w3, hw3⟩ : ∃ x, x = wy.alloc (.cells #[.int .i64 hr, .slice ua un uc, .slice va bn vc] 86) := ⟨_, rfl⟩
          have hb3 : Below wy.heap.size wy w3 := by rw [hw3]; exact below_alloc _ _
          obtain ⟨bx, hbx⟩ : ∃ x, x = wy.heap.size := ⟨_, rfl⟩
          have HX := Lib.hid (show w3.heap[bx]? = some (.cells #[.int .i64 hr, .slice ua un uc, .slice va bn vc] 86 (0, 0)) from by rw [hw3, hbx]; exact heap_alloc_new _ _)
          have HK3 := Lib.hid (HK.out.keep hb3)
          have Hui0 := Lib.hid hui
          have Hvi0 := Lib.hid hvi
          have Hui := Lib.hid (hui.keep HK3.out.b)
          have Hvi := Lib.hid (hvi.keep HK3.out.b)
          have Hne := Lib.hid (show bx ≠ g4 from by have := HK.out.s.lt; omega)
          have HC0 := Lib.hid (instR_any hr A bd HAt.out.2 h3 b' bd.length 0 [0, 0, 0, 0, 0, 0, 0, 0] (.slice ua un uc) (.slice va bn vc) w3 (by omega) zero8r.1 Hui.out Hvi.out)
          have HC := Lib.hid (show Calls Try.prog 92 #[.agg #[.int .i64 hr, .slice ua un uc, .slice va bn vc], .agg (srow b'), .int .i64 0, .agg #[.int .i64 0, .int .i64 0, .int .i64 0, .int .i64 0, .int .i64 0, .int .i64 0, .int .i64 0, .int .i64 0]] w3 (InE bd b' 0 [0, 0, 0, 0, 0, 0, 0, 0] bd.length w3) from HC0.out)
          have Hw3 := Lib.hid hw3
          have Hbx := Lib.hid hbx
          clear hrr hun hbn hui hvi hw3 hb3 hbx hlt2 hMr h3 HC0
          go_upto_region 7 with fail
          rw [← Hw3.out, ← Hbx.out]
          clear Hw3 hc0 hc1 hc2 hixk
          have r0 := aCell HX.out 0 rfl
          have r1 := aCell HX.out 1 rfl
          have r2 := aCell HX.out 2 rfl
          go_wp2_with (first | (refine wpList_load_row rfl 44 (.tmp 4) rfl g4 rfl 44 (srow b') (0, 0) _ HK3.out.s undSet rfl (sizeSet2 b') ?_))
          refine HC.out.mono ?_
          clear HC r0 r1 r2
          rintro e w5 ⟨na, nn, nc, N, rfl, hO, hI, _, hb5⟩
          have HK5 := Lib.hid (HK3.out.keep hb5)
          have HX5 := Lib.hid (blk_keep2 HX.out hb5)
          have HO5 := Lib.hid hO
          have HI := Lib.hid hI
          have hsz5 : w.heap.size ≤ w5.heap.size := HK5.out.b.size
          have Hnn := Lib.hid (show nn = N.length from by
            rcases hO.2 with ⟨h1, h2⟩ | ⟨_, _, _, h1, _⟩
            · injection h1 with _ h1 _; omega
            · injection h1)
          have H8 := Lib.hid (show ∀ m, m ∈ N → m.length = 8 from fun m hm => (hI.ok m hm).1.1)
          have HCin := Lib.hid (cin_0 HR.out N)
          have hnl : nn ≤ 9223372036854775807 := by
            have := (Rd.cap (owns_rd hO)).1
            have h2 := (owns_rd hO).2.1
            unfold maxLen at h2
            rw [Hnn.out]; omega
          clear hO hI hb5 Hui Hvi
          go_wp2_with fail
          go_loopw [7, 25] (fun vc' vi wr => ∃ (C : Bool) (j : Nat) (b2 : Nat → Bool), vc' = .bool C ∧ vi = .int .i64 j ∧ j ≤ nn ∧ Kb w wr g4 g5 g6 b2 k ∧ Cin l s0 k b b' b2 C kk N j ∧ wr.heap[bx]? = some (.cells #[.int .i64 hr, .slice ua un uc, .slice va bn vc] 86 (0, 0)) ∧ OwnVs w3.heap.size wr (.slice na nn nc) N) (fun _ vi _ => nn - (intOf vi).toNat)
          case atStart => exact ⟨C, 0, b', rfl, rfl, Nat.zero_le _, HK5.out, HCin.out, HX5.out, HO5.out⟩
          case round =>
            clear HCin HO5 HK5 HX5
            generalize wr = wz at *
            obtain ⟨C, j, b2, rfl, rfl, hj, hK, hci, hx, ho⟩ := hrel
            have HK := Lib.hid hK
            have HCi := Lib.hid hci
            have HX := Lib.hid hx
            have HO := Lib.hid ho
            clear hK hci hx ho
            by_cases hlj : j < nn
            · have hjN : j < N.length := by rw [← Hnn.out]; exact hlj
              have hmN : N.getD j [] ∈ N := by rw [List.getD_eq_getElem?_getD, List.getElem?_eq_getElem hjN]; exact List.getElem_mem _
              obtain ⟨_, bN, oN, _, hve, _, hiN, hcN⟩ := vs_get (owns_rd HO.out) H8.out
              have hcN := fun i hi => hcN j i hjN hi
              obtain ⟨np1, _, np2⟩ := HI.out.ok _ hmN
              have HNp := Lib.hid (show ∀ x, x ∈ bd → PosIn b' (N.getD j []) x from fun x hx => np2 x (by rw [List.drop_zero]; exact hx))
              have HSk := Lib.hid (fun hn => HSkip.out b' b2 C N j hjN HCi.out hn)
              have HAd := Lib.hid (fun c hn hc hb => HAdd.out b' b2 C N j c hjN HI.out HCi.out hn hc hb)
              have Hnum := Lib.hid (HNum.out b' (N.getD j []) HNp.out)
              have hne : na = some ⟨bN, oN, none⟩ := by
                have h0 := hiN (by omega)
                injection hve with e1 e2 e3
                rw [e1]; exact h0
              have hixN := (run_ix (P := Try.prog) (t := 155) (a := na) (len := nn) (cap := nc) (b := bN) (off := oN) (s := 8) Try.underlying155 (by intro w; kernel_rfl) (fun _ => hne)) j
              clear hne
              obtain ⟨m, hm⟩ : ∃ x, x = N.getD j [] := ⟨_, rfl⟩
              rw [← hm] at HSk HAd Hnum np1 hcN
              obtain ⟨x0, x1, x2, x3, x4, x5, x6, x7, rfl⟩ := eq8r np1.1
              have c0 : wz.cell? ⟨bN, oN + j * 8, none⟩ = some (.int .i64 x0) := hcN 0 (by omega)
              have c1 : wz.cell? ⟨bN, oN + j * 8 + 1, none⟩ = some (.int .i64 x1) := hcN 1 (by omega)
              have c2 : wz.cell? ⟨bN, oN + j * 8 + 2, none⟩ = some (.int .i64 x2) := hcN 2 (by omega)
              have c3 : wz.cell? ⟨bN, oN + j * 8 + 3, none⟩ = some (.int .i64 x3) := hcN 3 (by omega)
              have c4 : wz.cell? ⟨bN, oN + j * 8 + 4, none⟩ = some (.int .i64 x4) := hcN 4 (by omega)
              have c5 : wz.cell? ⟨bN, oN + j * 8 + 5, none⟩ = some (.int .i64 x5) := hcN 5 (by omega)
              have c6 : wz.cell? ⟨bN, oN + j * 8 + 6, none⟩ = some (.int .i64 x6) := hcN 6 (by omega)
              have c7 : wz.cell? ⟨bN, oN + j * 8 + 7, none⟩ = some (.int .i64 x7) := hcN 7 (by omega)
              obtain ⟨w6, hw6⟩ : ∃ x, x = wz.alloc (.cells #[.int .i64 x0, .int .i64 x1, .int .i64 x2, .int .i64 x3, .int .i64 x4, .int .i64 x5, .int .i64 x6, .int .i64 x7] 80) := ⟨_, rfl⟩
              have hb6 : Below wz.heap.size wz w6 := by rw [hw6]; exact below_alloc _ _
              obtain ⟨bm, hbm⟩ : ∃ x, x = wz.heap.size := ⟨_, rfl⟩
              have HMb := Lib.hid (show w6.heap[bm]? = some (.cells #[.int .i64 x0, .int .i64 x1, .int .i64 x2, .int .i64 x3, .int .i64 x4, .int .i64 x5, .int .i64 x6, .int .i64 x7] 80 (0, 0)) from by rw [hw6, hbm]; exact heap_alloc_new _ _)
              have HK6 := Lib.hid (HK.out.keep hb6)
              have HX6 := Lib.hid (blk_keep2 HX.out hb6)
              have HO6 := Lib.hid (owns_keep HO.out hb6)
              have hfc : FcR (gnd [x0, x1, x2, x3, x4, x5, x6, x7] (hr, A)) := gnd_fc HAt.out.1 fun t ht => Hnum.out t (.inl ht)
              have HFn := Lib.hid (show ∀ x, x ∈ bd → FcR (gnd [x0, x1, x2, x3, x4, x5, x6, x7] x.2) from fun x hx => gnd_fc (HAt.out.2 x hx) fun t ht => Hnum.out t (.inr ⟨x, hx, ht⟩))
              have HC0 := givenR_any [x0, x1, x2, x3, x4, x5, x6, x7] rfl (hr, A) HAt.out.1 hfc (.slice ua un uc) w6 (Hui0.out.keep HK6.out.b)
              have hrg := rcd_range hfc
              obtain ⟨c, hc⟩ : ∃ c : Nat, rcd (gnd [x0, x1, x2, x3, x4, x5, x6, x7] (hr, A)) = c := ⟨(rcd (gnd [x0, x1, x2, x3, x4, x5, x6, x7] (hr, A))).toNat, by omega⟩
              rw [hc] at HC0 hrg
              have HC := Lib.hid (show Calls Try.prog 93 #[.agg #[.int .i64 hr, .slice ua un uc], .agg #[.int .i64 x0, .int .i64 x1, .int .i64 x2, .int .i64 x3, .int .i64 x4, .int .i64 x5, .int .i64 x6, .int .i64 x7]] w6 (fun e w' => e = .returned (.int .i64 (c : Int)) ∧ Below w6.heap.size w6 w') from HC0)
              have hc252 : c < 252 := by omega
              have hci : (c : Int) < 252 := by omega
              have HcE := Lib.hid hc
              have Hw6 := Lib.hid hw6
              have Hbm := Lib.hid hbm
              clear hw6 hb6 hbm HC0 hc hfc hrg hm hjN hmN hcN np1 np2 hiN hve
              go_upto_region 10 with fail
              rw [← Hw6.out, ← Hbm.out]
              clear Hw6 c0 c1 c2 c3 c4 c5 c6 c7 hixN
              have r0 := aCell HX6.out 0 rfl
              have r1 := aCell HX6.out 1 rfl
              have m0 : w6.cell? ⟨bm, 0, none⟩ = some (.int .i64 x0) := aCell HMb.out 0 rfl
              have m1 : w6.cell? ⟨bm, 1, none⟩ = some (.int .i64 x1) := aCell HMb.out 1 rfl
              have m2 : w6.cell? ⟨bm, 2, none⟩ = some (.int .i64 x2) := aCell HMb.out 2 rfl
              have m3 : w6.cell? ⟨bm, 3, none⟩ = some (.int .i64 x3) := aCell HMb.out 3 rfl
              have m4 : w6.cell? ⟨bm, 4, none⟩ = some (.int .i64 x4) := aCell HMb.out 4 rfl
              have m5 : w6.cell? ⟨bm, 5, none⟩ = some (.int .i64 x5) := aCell HMb.out 5 rfl
              have m6 : w6.cell? ⟨bm, 6, none⟩ = some (.int .i64 x6) := aCell HMb.out 6 rfl
              have m7 : w6.cell? ⟨bm, 7, none⟩ = some (.int .i64 x7) := aCell HMb.out 7 rfl
              go_wp2_with fail
              refine HC.out.mono ?_
              clear HC r0 r1 m0 m1 m2 m3 m4 m5 m6 m7
              rintro e w7 ⟨rfl, hb7⟩
              have HK7 := Lib.hid (HK6.out.keep hb7)
              have HX7 := Lib.hid (blk_keep2 HX6.out hb7)
              have HO7 := Lib.hid (owns_keep HO6.out hb7)
              have HM7 := Lib.hid (blk_keep2 HMb.out hb7)
              clear hb7
              have r0 := aCell HX7.out 0 rfl
              have r1 := aCell HX7.out 1 rfl
              have r2 := aCell HX7.out 2 rfl
              have m0 : w7.cell? ⟨bm, 0, none⟩ = some (.int .i64 x0) := aCell HM7.out 0 rfl
              have m1 : w7.cell? ⟨bm, 1, none⟩ = some (.int .i64 x1) := aCell HM7.out 1 rfl
              have m2 : w7.cell? ⟨bm, 2, none⟩ = some (.int .i64 x2) := aCell HM7.out 2 rfl
              have m3 : w7.cell? ⟨bm, 3, none⟩ = some (.int .i64 x3) := aCell HM7.out 3 rfl
              have m4 : w7.cell? ⟨bm, 4, none⟩ = some (.int .i64 x4) := aCell HM7.out 4 rfl
              have m5 : w7.cell? ⟨bm, 5, none⟩ = some (.int .i64 x5) := aCell HM7.out 5 rfl
              have m6 : w7.cell? ⟨bm, 6, none⟩ = some (.int .i64 x6) := aCell HM7.out 6 rfl
              have m7 : w7.cell? ⟨bm, 7, none⟩ = some (.int .i64 x7) := aCell HM7.out 7 rfl
              by_cases hfr : ∀ x, x ∈ bd → x.1 = true → k (rcd (gnd [x0, x1, x2, x3, x4, x5, x6, x7] x.2)).toNat = false
              · have HC := Lib.hid (show Calls Try.prog 94 #[.agg #[.int .i64 hr, .slice ua un uc, .slice va bn vc], .agg #[.int .i64 x0, .int .i64 x1, .int .i64 x2, .int .i64 x3, .int .i64 x4, .int .i64 x5, .int .i64 x6, .int .i64 x7], .agg (srow k)] w7 (fun e w' => e = .returned (.bool true) ∧ Below w7.heap.size w7 w') from
                  freeR_any ((hr, A), bd) HAt.out.2 [x0, x1, x2, x3, x4, x5, x6, x7] rfl (fun x hx _ => HFn.out x hx) k (.slice ua un uc) (.slice va bn vc) w7 (Hui0.out.keep HK7.out.b) (Hvi0.out.keep HK7.out.b) true ⟨fun _ => hfr, fun _ => rfl⟩)
                have HFr := Lib.hid (show ∀ x, x ∈ bd → x.1 = true → ¬ k (rcd (gnd [x0, x1, x2, x3, x4, x5, x6, x7] x.2)).toNat = true from fun x hx h1 => by rw [hfr x hx h1]; simp)
                clear hfr
                go_wp2_with (first | (refine wpList_load_row rfl 44 (.tmp 5) rfl g5 rfl 44 (srow k) (0, 0) _ HK7.out.k undSet rfl (sizeSet2 k) ?_))
                refine HC.out.mono ?_
                clear HC r0 r1 r2 m0 m1 m2 m3 m4 m5 m6 m7
                rintro e w8 ⟨rfl, hb8⟩
                have HK8 := Lib.hid (HK7.out.keep hb8)
                have HX8 := Lib.hid (blk_keep2 HX7.out hb8)
                have HO8 := Lib.hid (owns_keep HO7.out hb8)
                clear hb8
                have gc := HK8.out.s.at hc252
                have gf := HK8.out.s.fz c
                cases hbc : b2 c
                · rw [hbc] at gc
                  have HCi9 := Lib.hid (HAd.out c HFr.out HcE.out (by rw [hbc]; simp))
                  have HK9 := Lib.hid (HK8.out.set c)
                  have HO9 := Lib.hid (vs_set HO8.out HK8.out.s c (.bool true))
                  have HX9 := Lib.hid (show (w8.setCell ⟨g4, c, none⟩ (.bool true)).heap[bx]? = some (.cells #[.int .i64 hr, .slice ua un uc, .slice va bn vc] 86 (0, 0)) from (heap_setCell_other w8 ⟨g4, c, none⟩ bx _ Hne.out).trans HX8.out)
                  clear hbc HSk HAd
                  go_wp2_with fail
                  clear gc gf
                  generalize w8.setCell ⟨g4, c, none⟩ (.bool true) = w9 at *
                  go_roundw
                  case rel => exact ⟨true, j + 1, _, rfl, by go_num, by omega, HK9.out, HCi9.out, HX9.out, HO9.out⟩
                  case measure => simp [intOf]; omega
                · rw [hbc] at gc
                  have HCi9 := Lib.hid (HSk.out fun _ => by
                    show b2 (rcd (gnd [x0, x1, x2, x3, x4, x5, x6, x7] (hr, A))).toNat = true
                    rw [HcE.out, Int.toNat_natCast]; exact hbc)
                  clear hbc HSk HAd
                  go_wp2_with fail
                  clear gc gf
                  go_roundw
                  case rel => exact ⟨C, j + 1, b2, rfl, by go_num, by omega, HK8.out, HCi9.out, HX8.out, HO8.out⟩
                  case measure => simp [intOf]; omega
              · have HC := Lib.hid (show Calls Try.prog 94 #[.agg #[.int .i64 hr, .slice ua un uc, .slice va bn vc], .agg #[.int .i64 x0, .int .i64 x1, .int .i64 x2, .int .i64 x3, .int .i64 x4, .int .i64 x5, .int .i64 x6, .int .i64 x7], .agg (srow k)] w7 (fun e w' => e = .returned (.bool false) ∧ Below w7.heap.size w7 w') from
                  freeR_any ((hr, A), bd) HAt.out.2 [x0, x1, x2, x3, x4, x5, x6, x7] rfl (fun x hx _ => HFn.out x hx) k (.slice ua un uc) (.slice va bn vc) w7 (Hui0.out.keep HK7.out.b) (Hvi0.out.keep HK7.out.b) false ⟨fun h => (by cases h), fun h => absurd h hfr⟩)
                have HCi9 := Lib.hid (HSk.out fun hn => absurd (fun x hx h1 => by
                  have := hn x hx h1
                  simpa using this) hfr)
                clear hfr HSk HAd
                go_wp2_with (first | (refine wpList_load_row rfl 44 (.tmp 5) rfl g5 rfl 44 (srow k) (0, 0) _ HK7.out.k undSet rfl (sizeSet2 k) ?_))
                refine HC.out.mono ?_
                clear HC r0 r1 r2 m0 m1 m2 m3 m4 m5 m6 m7
                rintro e w8 ⟨rfl, hb8⟩
                have HK8 := Lib.hid (HK7.out.keep hb8)
                have HX8 := Lib.hid (blk_keep2 HX7.out hb8)
                have HO8 := Lib.hid (owns_keep HO7.out hb8)
                clear hb8
                go_wp2_with fail
                go_roundw
                case rel => exact ⟨C, j + 1, b2, rfl, by go_num, by omega, HK8.out, HCi9.out, HX8.out, HO8.out⟩
                case measure => simp [intOf]; omega
            · obtain rfl : j = nn := by omega
              have HR9 := Lib.hid (HEnd.out b' b2 C N HI.out (show Cin l s0 k b b' b2 C kk N N.length from by rw [← Hnn.out]; exact HCi.out))
              go_wp2_with fail
              go_roundw
              case rel => exact ⟨C, kk + 1, b2, rfl, by go_num, by omega, HK.out, HR9.out⟩
              case measure => simp [intOf]; omega
        · obtain rfl : kk = n := by omega
          have HCl := Lib.hid (show C = false → ∀ r, r ∈ l → ClR k b' r from fun h => by
            obtain ⟨e, h2⟩ := HR.out.up h
            rw [Hn.out, List.take_length] at h2
            rw [e]; exact h2)
          have HQ := Lib.hid HR.out.q
          have Hgr := Lib.hid (show cntW wy g4 252 * 2 + (match Value.bool C with | .bool true => 1 | _ => 0) < M * 2 + 1 from by
            have a := HM.out
            have b9 := cntW_eq HK.out.s 252 (Nat.le_refl _)
            cases C
            · have := (HR.out.up rfl).1
              subst this
              show cntW wy g4 252 * 2 + 0 < M * 2 + 1
              omega
            · have := HR.out.gr rfl
              show cntW wy g4 252 * 2 + 1 < M * 2 + 1
              omega)
          go_wp2_with fail
          go_roundw
          case rel => exact ⟨C, b', rfl, HK.out, HQ.out, HCl.out⟩
          case measure => first | exact Hgr.out | (have := Hgr.out; simp at this ⊢; omega)
#print axioms ConsqR_any
theorem mlv_fc {l : List RRule} (hl : RuV l) {L : List Int} {G : RAt → Prop} (hG : ∀ f, G f → FcR f) : ∀ s f, mlv l L G s f → FcR f
  | 0, f, h => hG f h
  | s + 1, _, h => cons_valid hl (fun _ hr => hr.1) (mlv_fc hl hG s) h
/-- the rules of a stratum -/
def stL (L : List Int) (n : Nat) (l : List RRule) : List RRule := l.filter fun r => decide (L.getD r.1.1.toNat 0 = (n : Int))
theorem stL_mem {L : List Int} {n : Nat} {l : List RRule} {r : RRule} : r ∈ stL L n l ↔ r ∈ l ∧ L.getD r.1.1.toNat 0 = (n : Int) := by
  unfold stL
  rw [List.mem_filter, decide_eq_true_eq]
theorem stL_snoc {L : List Int} {n k : Nat} {l : List RRule} (hk : k < l.length) : stL L n (l.take (k + 1)) = if L.getD (rR l k).1.1.toNat 0 = (n : Int) then stL L n (l.take k) ++ [rR l k] else stL L n (l.take k) := by
  unfold stL
  rw [List.take_succ_eq_append_getElem hk, List.filter_append, ← rR_get hk, List.filter_cons, List.filter_nil]
  by_cases e : L.getD (rR l k).1.1.toNat 0 = (n : Int)
  · rw [if_pos (decide_eq_true e), if_pos e]
  · rw [if_neg (by rw [decide_eq_true_eq]; exact e), if_neg e, List.append_nil]
/-- a row of bools is a set of facts -/
def BSet (b : Nat → Bool) (P : RAt → Prop) : Prop := ∀ c, c < 252 → (b c = true ↔ ∃ f, P f ∧ rcd f = (c : Int))
theorem bset_at {b : Nat → Bool} {P : RAt → Prop} (h : BSet b P) (hP : ∀ f, P f → FcR f) {f : RAt} (hf : FcR f) : b (rcd f).toNat = true ↔ P f := by
  have hr := rcd_range hf
  rw [h _ (by omega)]
  constructor
  · rintro ⟨g, h1, h2⟩
    have := rcd_inj (hP g h1) hf (by rw [h2]; omega)
    exact this ▸ h1
  · intro hp
    exact ⟨f, hp, by omega⟩
theorem mq_step {l : List RRule} (hl : RuV l) {L : List Int} {G : RAt → Prop} (hG : ∀ f, G f → FcR f) {n : Nat} {b : Nat → Bool} (h : BSet b (mlv l L G n)) (f : RAt) : Cnq (stL L n l) b b f ↔ mlv l L G (n + 1) f := by
  have hP := mlv_fc hl (L := L) hG n
  constructor
  · intro hf
    exact Cons.congrV hl (fun r hr => ⟨stL_mem.1 hr, (stL_mem.1 hr).1⟩) (fun f hf => (bset_at h hP hf.1).1 hf.2) (fun f hf hk => (bset_at h hP hf).2 hk) hf
  · intro hf
    exact Cons.congrV hl (fun r hr => ⟨stL_mem.2 hr, hr.1⟩) (fun f hf => ⟨hP f hf, (bset_at h hP (hP f hf)).2 hf⟩) (fun f hf hk => (bset_at h hP hf).1 hk) hf
/-- a set stored into a new block -/
theorem set_new (w : World) (b : Nat → Bool) : SetB ((w.alloc (.cells Try.zeroCells44 44)).setRow w.heap.size (srow b)) w.heap.size b ∧ Below w.heap.size w ((w.alloc (.cells Try.zeroCells44 44)).setRow w.heap.size (srow b)) :=
  ⟨setRow_heap _ _ _ (srow b) _ _ (heap_alloc_new w _), below_setRow (b := w.heap.size) (below_alloc w _) (Nat.le_refl _) (srow b)⟩
theorem zero_size (b : Nat → Bool) : Try.zeroCells44.size = (srow b).size := by rw [zero_srow, srow_size, srow_size]
theorem results_mdl (tmps : Array Value) (w : World) (g : Nat) (b : Nat → Bool) (hp : tmps.getD 4 undef = .pointer (some ⟨g, 0, none⟩)) (hg : SetB w g b) : (results Try.f30 tmps).run Try.prog w = .ok (.tuple #[.agg (srow b), tmps.getD 5 undef]) w :=
  results_cell_tmp Try.results30 _ _ g 44 _ (0, 0) _ hp hg undSet rfl (sizeSet2 b)
/-- the blocks of a call of Model -/
structure Mk (w wr : World) (g4 g8 gL sc B1 : Nat) (q : Nat → Bool) (L : List Int) : Prop where
  b : Below w.heap.size w wr
  z : SetB wr g4 (fun _ => false)
  s : SetB wr g8 q
  i : OwnInts B1 wr (.slice (some ⟨gL, 0, none⟩) 6 sc) L
theorem Mk.keep {w wr w' : World} {g4 g8 gL sc B1 : Nat} {q : Nat → Bool} {L : List Int} (h : Mk w wr g4 g8 gL sc B1 q L) (hb : Below wr.heap.size wr w') : Mk w w' g4 g8 gL sc B1 q L := ⟨Below.tr h.b hb, h.z.keep hb, h.s.keep hb, h.i.keep hb⟩
theorem Mk.row {w wr : World} {g4 g8 gL sc B1 : Nat} {q p : Nat → Bool} {L : List Int} (h : Mk w wr g4 g8 gL sc B1 q L) (h8 : w.heap.size ≤ g8) (hne : g4 ≠ g8) : Mk w (wr.setRow g8 (srow p)) g4 g8 gL sc B1 p L := by
  refine ⟨below_setRow h.b h8 (srow p), (setRow_other wr g8 g4 _ hne).trans h.z, setRow_heap wr g8 _ (srow p) _ _ h.s, own_block h.i fun k hk => setRow_other wr g8 k _ fun e => ?_⟩
  rcases rowT_apart h.i h.s (by decide) with q | q
  · rw [q] at hk; cases hk
  · rw [hk, e] at q; exact q rfl
/-- what Model of the reference returns -/
def MdR (l : List RRule) (fs : List RAt) (e : Ending) : Prop :=
  (NoStr l ∧ e = .returned (.tuple #[.agg (srow fun _ => false), .int .i64 8])) ∨ ∃ (L : List Int) (b : Nat → Bool), Str l L ∧ e = .returned (.tuple #[.agg (srow b), .int .i64 0]) ∧ BSet b (mlv l L (fun f => f ∈ fs) 6)
set_option maxRecDepth 100000 in
set_option maxHeartbeats 16000000 in
theorem ModelR_any (l : List RRule) (fs : List RAt) (hv : ValR l fs) (rl u : Value) (w : World) (hrl : Rules w rl l) (hu : Atoms w u fs) :
    Calls Try.prog 30 #[rl, u] w fun e w' => MdR l fs e ∧ Below w.heap.size w w' := by
  have HR := Lib.hid hrl
  have HF := Lib.hid hu
  obtain ⟨a, b0, off, cap, rfl, hle, hia, _, hcs⟩ := Rules.get hrl
  obtain ⟨ua, uc, rfl⟩ := atoms_slice hu
  obtain ⟨n, hn⟩ : ∃ x, x = l.length := ⟨_, rfl⟩
  obtain ⟨fn, hfn⟩ : ∃ x, x = fs.length := ⟨_, rfl⟩
  have Hn := Lib.hid hn
  have hn10 : n ≤ 10 := by rw [hn]; exact hv.l10
  rw [← hn] at hle hia hcs HR ⊢
  rw [← hfn] at HF ⊢
  have Hix := Lib.hid (run_ix (P := Try.prog) (t := 22) (a := a) (len := n) (cap := cap) (b := b0) (off := off) (s := 3) Try.underlying22 (by intro w; kernel_rfl) hia)
  have Hc := Lib.hid hcs
  have HV := Lib.hid hv
  have HVn := Lib.hid (show ValR l [] from ⟨hv.l10, by simp, hv.ats, hv.b3, hv.safe, fun f hf => (by cases hf), fun o ho p hp e => hv.con o (by simp [UseF] at ho; exact List.mem_append_left _ ho) p (by simp [UseF] at hp; exact List.mem_append_left _ hp) e⟩)
  have HG := Lib.hid (show ∀ f : RAt, f ∈ fs → FcR f from hv.fcs)
  obtain ⟨w1, hw1⟩ : ∃ x, x = w.alloc (.cells (srow fun _ => false) 44) := ⟨_, rfl⟩
  obtain ⟨g4, hg4⟩ : ∃ x, x = w.heap.size := ⟨_, rfl⟩
  have HZ1 := Lib.hid (show SetB w1 g4 (fun _ => false) from by unfold SetB; rw [hw1, hg4]; exact heap_alloc_new _ _)
  have HB1 := Lib.hid (show Below w.heap.size w w1 from by rw [hw1]; exact below_alloc _ _)
  have Hw1 := Lib.hid hw1
  have Hg4 := Lib.hid hg4
  have HC := Lib.hid (StrataR_any l HVn.out _ w1 (HR.out.keep HB1.out))
  clear hrl hu hia hcs hn hfn hv hw1 hg4
  go_enter Try.func30, Try.ntmps30
  go_upto_region 1 with fail
  rw [zero_srow, ← Hw1.out, ← Hg4.out]
  clear Hw1
  go_wp2_with fail
  refine HC.out.mono ?_
  clear HC
  rintro e w2 ⟨hm, hb2⟩
  have HB2 := Lib.hid (Below.tr HB1.out hb2)
  have HZ2 := Lib.hid (HZ1.out.keep hb2)
  have HC := Lib.hid (OfR_any fs HG.out _ w2 (HF.out.keep HB2.out))
  clear hb2
  rcases hm with ⟨hno, rfl⟩ | ⟨sa, sc, L, rfl, ho, hs⟩
  · have HNo := Lib.hid hno
    clear hno
    go_upto_region 3 with (first | (refine HC.out.mono ?_; clear HC; rintro e w3 ⟨b, rfl, hbs, hb3⟩) | (refine wpList_store_row rfl 44 (.tmp 8) (.tmp 19) rfl w3.heap.size (srow b) rfl rfl 44 Try.zeroCells44 (heap_alloc_new w3 _) (sizeSet2 b) (zero_size b) (srow_one b) ?_))
    have HB3 := Lib.hid (Below.tr (Below.tr HB2.out hb3) (set_new w3 b).2)
    have HZ3 := Lib.hid ((HZ2.out.keep hb3).keep (set_new w3 b).2)
    have HS3 := Lib.hid (set_new w3 b).1
    have HBS := Lib.hid (show BSet b (fun f => f ∈ fs) from hbs)
    obtain ⟨g8, hg8⟩ : ∃ x, x = w3.heap.size := ⟨_, rfl⟩
    have Hne := Lib.hid (show g4 ≠ g8 from by have := (HZ2.out.keep hb3).lt; omega)
    have Hg8 := Lib.hid (show w.heap.size ≤ g8 from by have := HB2.out.size; have := hb3.size; omega)
    rw [← hg8] at HB3 HZ3 HS3 ⊢
    generalize (w3.alloc (.cells Try.zeroCells44 44)).setRow g8 (srow b) = w4 at *
    clear hb3 hg8 hbs

    have HGz := Lib.hid (setRow_heap w4 g4 _ (srow fun _ => false) _ _ HZ3.out)
    have HB9 := Lib.hid (below_setRow (b := g4) HB3.out (by rw [Hg4.out]; exact Nat.le_refl _) (srow fun _ => false))
    have hz : (srow fun _ => false).size = (srow fun _ => false).size := rfl
    go_wp2_with (first | (rw [zero_srow]; refine wpList_store_row rfl 44 (.tmp 4) (.tmp 22) rfl g4 (srow fun _ => false) rfl rfl 44 _ HZ3.out (sizeSet2 _) hz (srow_one _) ?_))
    generalize w4.setRow g4 (srow fun _ => false) = w9 at *
    refine bodyPost_ret (results_mdl _ _ g4 (fun _ => false) rfl HGz.out) rfl ?_
    exact ⟨.inl ⟨HNo.out, rfl⟩, HB9.out⟩
  · have HSt := Lib.hid hs
    obtain ⟨gL, rfl⟩ : ∃ g, sa = some ⟨g, 0, none⟩ := by
      rcases ho.2 with ⟨h1, h2⟩ | ⟨g, _, _, h1, _⟩
      · have h3 := hs.sv.len
        rw [h3] at h2; cases h2
      · injection h1 with h1 _ _
        exact ⟨g, h1⟩
    have hsc : sc = sc := rfl
    have HL2 := Lib.hid ho
    have HixL := Lib.hid (run_ix (P := Try.prog) (t := 23) (a := some ⟨gL, 0, none⟩) (len := 6) (cap := sc) (b := gL) (off := 0) (s := 1) Try.underlying23 (by intro w; kernel_rfl) (fun _ => rfl))
    simp only [Nat.mul_one, Nat.zero_add] at HixL
    clear hs ho hsc
    go_upto_region 3 with (first | (refine HC.out.mono ?_; clear HC; rintro e w3 ⟨b, rfl, hbs, hb3⟩) | (refine wpList_store_row rfl 44 (.tmp 8) (.tmp 19) rfl w3.heap.size (srow b) rfl rfl 44 Try.zeroCells44 (heap_alloc_new w3 _) (sizeSet2 b) (zero_size b) (srow_one b) ?_))
    have HB3 := Lib.hid (Below.tr (Below.tr HB2.out hb3) (set_new w3 b).2)
    have HZ3 := Lib.hid ((HZ2.out.keep hb3).keep (set_new w3 b).2)
    have HS3 := Lib.hid (set_new w3 b).1
    have HBS := Lib.hid (show BSet b (fun f => f ∈ fs) from hbs)
    obtain ⟨g8, hg8⟩ : ∃ x, x = w3.heap.size := ⟨_, rfl⟩
    have Hne := Lib.hid (show g4 ≠ g8 from by have := (HZ2.out.keep hb3).lt; omega)
    have Hg8 := Lib.hid (show w.heap.size ≤ g8 from by have := HB2.out.size; have := hb3.size; omega)
    have HL4 := Lib.hid (set_new w3 b).2
    rw [← hg8] at HB3 HZ3 HS3 HL4 ⊢
    generalize (w3.alloc (.cells Try.zeroCells44 44)).setRow g8 (srow b) = w4 at *
    have HI4 := Lib.hid (HL2.out.keep (Below.tr hb3 (show Below w3.heap.size w3 w4 from by rw [← hg8]; exact HL4.out)))
    clear hb3 hg8 hbs

    go_wp2_with fail
    have HMk := Lib.hid (show Mk w w4 g4 g8 gL sc w1.heap.size b L from ⟨HB3.out, HZ3.out, HS3.out, HI4.out⟩)
    clear HB3 HZ3 HS3 HI4 HL4
    go_loopw [24] (fun vi wr => ∃ (i : Nat) (b : Nat → Bool), vi = .int .i64 i ∧ i ≤ 6 ∧ Mk w wr g4 g8 gL sc w1.heap.size b L ∧ BSet b (mlv l L (fun f => f ∈ fs) i)) (fun vi _ => 6 - (intOf vi).toNat)
    case atStart => exact ⟨0, b, rfl, by omega, HMk.out, HBS.out⟩
    case round =>
      clear HMk HBS
      generalize wr = wx at *
      obtain ⟨i, b, rfl, hi, hK, hB⟩ := hrel
      have HK := Lib.hid hK
      have HBS := Lib.hid hB
      clear hK hB
      by_cases hi6 : i < 6
      · have hii : (i : Int) < 6 := by omega
        go_wp2_with fail
        go_loopw [10, 29] (fun vo vi wr => ∃ (k : Nat) (oa : Option Addr) (on oc : Nat), vo = .slice oa on oc ∧ vi = .int .i64 k ∧ k ≤ n ∧ Mk w wr g4 g8 gL sc w1.heap.size b L ∧ OwnS 86 w.heap.size wr (.slice oa on oc) (RuC w) (stL L i (l.take k))) (fun _ vi _ => n - (intOf vi).toNat)
        case atStart => exact ⟨0, none, 0, 0, rfl, rfl, Nat.zero_le _, HK.out, ownS_nil _ _ _ _⟩
        case round =>
          clear HK
          generalize wr = wy at *
          obtain ⟨k, oa, on, oc, rfl, rfl, hk, hK, ho⟩ := hrel
          have HK := Lib.hid hK
          have HO := Lib.hid ho
          clear hK ho
          by_cases hlt : k < n
          · obtain ⟨ua', uc', va, vc, hc0, hc1, hc2, hui, hvi⟩ := Hc.out k hlt
            have hc0 := Below.keep HK.out.b hc0
            have hc1 := Below.keep HK.out.b hc1
            have hc2 := Below.keep HK.out.b hc2
            have hixk := Hix.out k
            have hlt2 : k < l.length := by rw [← Hn.out]; exact hlt
            have HMr := Lib.hid (show rR l k ∈ l from by rw [rR_get hlt2]; exact List.getElem_mem hlt2)
            have HTk := Lib.hid (stL_snoc (L := L) (n := i) hlt2)
            obtain ⟨⟨⟨hr, A⟩, bd⟩, hrr⟩ : ∃ x, x = rR l k := ⟨_, rfl⟩
            rw [← hrr] at hc0 hc1 hc2 hui hvi HMr HTk
            simp only at hc0 hc1 hc2 hui hvi
            have hh := (HV.out.ats _ HMr.out).1.1
            simp only at hh
            obtain ⟨hN, rfl⟩ : ∃ x : Nat, hr = x := ⟨hr.toNat, by omega⟩
            simp only [Int.toNat_natCast] at HTk
            have hN6 : hN < 6 := by omega
            obtain ⟨un, hun⟩ : ∃ x, x = A.length := ⟨_, rfl⟩
            obtain ⟨bn, hbn⟩ : ∃ x, x = bd.length := ⟨_, rfl⟩
            rw [← hun] at hc1 hui
            rw [← hbn] at hc2 hvi
            obtain ⟨w5, hw5⟩ : ∃ x, x = wy.alloc (.cells #[.int .i64 (hN : Int), .slice ua' un uc', .slice va bn vc] 86) := ⟨_, rfl⟩
            have hb5 : Below wy.heap.size wy w5 := by rw [hw5]; exact below_alloc _ _
            obtain ⟨bx, hbx⟩ : ∃ x, x = wy.heap.size := ⟨_, rfl⟩
            have HX := Lib.hid (show w5.heap[bx]? = some (.cells #[.int .i64 (hN : Int), .slice ua' un uc', .slice va bn vc] 86 (0, 0)) from by rw [hw5, hbx]; exact heap_alloc_new _ _)
            have HK5 := Lib.hid (HK.out.keep hb5)
            have HO5 := Lib.hid (HO.out.keep hb5)
            have Hui := Lib.hid hui
            have Hvi := Lib.hid hvi
            have Hw5 := Lib.hid hw5
            have Hbx := Lib.hid hbx
            clear hrr hun hbn hui hvi hw5 hb5 hbx hlt2 hh
            go_upto_region 12 with fail
            rw [← Hw5.out, ← Hbx.out]
            clear Hw5 hc0 hc1 hc2 hixk
            have g0 := aCell HX.out 0 rfl
            have gl := ownI_cellR HK5.out.i HSt.out.sv.len.symm (list6 HSt.out.sv.len hN6)
            have hixl := HixL.out hN
            by_cases c : L.getD hN 0 = (i : Int)
            · have q1 : (L.getD hN 0 == (i : Int)) = true := by rw [beq_iff_eq]; exact c
              have HTk2 := Lib.hid (HTk.out.trans (if_pos c))
              obtain ⟨xl, hxl⟩ : ∃ x, x = L.getD hN 0 := ⟨_, rfl⟩
              rw [← hxl] at gl q1
              clear c HTk hxl
              have g1 := aCell HX.out 1 rfl
              have g2 := aCell HX.out 2 rfl
              obtain ⟨w8, hw8⟩ : ∃ x, x = w5.alloc (.cells #[.int .i64 (hN : Int), .slice ua' un uc', .slice va bn vc] 86) := ⟨_, rfl⟩
              have hb8 : Below w5.heap.size w5 w8 := by rw [hw8]; exact below_alloc _ _
              obtain ⟨bk, hbk⟩ : ∃ x, x = w5.heap.size := ⟨_, rfl⟩
              have HKk := Lib.hid (show w8.heap[bk]? = some (.cells #[.int .i64 (hN : Int), .slice ua' un uc', .slice va bn vc] 86 (0, 0)) from by rw [hw8, hbk]; exact heap_alloc_new _ _)
              have HK8 := Lib.hid (HK5.out.keep hb8)
              obtain ⟨cs, s1, s2, s3⟩ := HO5.out.keep hb8
              have Hs1 := Lib.hid s1
              have Hs2 := Lib.hid s2
              have Hs3 := Lib.hid s3
              have Hw8 := Lib.hid hw8
              have Hbk := Lib.hid hbk
              have hl2 : (stL L i (l.take k)).length + 1 ≤ 100000000000 := by
                have h2 : (stL L i (l.take k)).length ≤ (l.take k).length := List.length_filter_le _ _
                rw [List.length_take] at h2; omega
              clear hw8 hb8 hbk s1 s2 s3
              go_wp2_with (first | (at_builtin; rw [← Hw8.out, ← Hbk.out]; refine append_own rfl (.tmp 41) (.tmp 43) 22 rfl elemRulesR rfl Hs3.out (m := 1) [.int .i64 (hN : Int), .slice ua' un uc', .slice va bn vc] rfl rfl (fun k y hk => aCell HKk.out k (by simpa using hk)) (by intro u hu; simp at hu; rcases hu with rfl | rfl | rfl <;> rfl) hl2 HK8.out.b.size ?_; intro v9 w9 h91 h92 h93))
              have HO9 := Lib.hid (show OwnS 86 w.heap.size w9 v9 (RuC w) (stL L i (l.take (k + 1))) from by
                rw [HTk2.out]
                exact ownS_snoc Hs1.out Hs2.out ⟨_, _, rfl, Hui.out, Hvi.out⟩ rfl h91)
              have HK9 := Lib.hid (show Mk w w9 g4 g8 gL sc w1.heap.size b L from ⟨HK8.out.b.trans h92, block_grown Hs3.out h93 HK8.out.z (by decide), block_grown Hs3.out h93 HK8.out.s (by decide), World.ownsRow.kept HK8.out.i h93 (rows_apart HK8.out.i Hs3.out (by decide))⟩)
              obtain ⟨qa, qn2, qk, rfl⟩ := row_slice h91
              clear h91 h92 h93 hl2 g0 g1 g2 gl hixl
              go_wp2_with fail
              go_roundw
              case rel => exact ⟨k + 1, qa, qn2, qk, rfl, by go_num, by omega, HK9.out, HO9.out⟩
              case measure => simp [intOf]; omega
            · have q1 : (L.getD hN 0 == (i : Int)) = false := by rw [beq_eq_false_iff_ne]; exact c
              have HO4 := Lib.hid (show OwnS 86 w.heap.size w5 (.slice oa on oc) (RuC w) (stL L i (l.take (k + 1))) from by rw [HTk.out, if_neg c]; exact HO5.out)
              obtain ⟨xl, hxl⟩ : ∃ x, x = L.getD hN 0 := ⟨_, rfl⟩
              rw [← hxl] at gl q1
              clear c HTk hxl
              go_wp2_with fail
              go_roundw
              case rel => exact ⟨k + 1, oa, on, oc, rfl, by go_num, by omega, HK5.out, HO4.out⟩
              case measure => simp [intOf]; omega
          · obtain rfl : n = k := by omega
            have hE : Rules wy (.slice oa on oc) (stL L i l) := by
              have := HO.out
              rw [Hn.out, List.take_length] at this
              exact ownS_rules this HK.out.b
            have HC := Lib.hid (ConsqR_any (stL L i l) (fun r hr => HV.out.ats r (stL_mem.1 hr).1) (fun r hr => HV.out.safe r (stL_mem.1 hr).1) (fun r hr => HV.out.b3 r (stL_mem.1 hr).1) b b _ wy hE)
            clear hE
            go_wp2_with (first | (refine wpList_load_row rfl 44 (.tmp 8) rfl g8 rfl 44 (srow b) (0, 0) _ HK.out.s undSet rfl (sizeSet2 b) ?_))
            refine HC.out.mono ?_
            clear HC
            rintro e w6 ⟨b2, rfl, hb2s, hb6⟩
            have HK6 := Lib.hid (HK.out.keep hb6)
            have HB2 := Lib.hid (show BSet b2 (mlv l L (fun f => f ∈ fs) (i + 1)) from fun c hc => (hb2s c hc).trans ⟨fun ⟨f, h1, h2⟩ => ⟨f, (mq_step HV.out.ats HG.out HBS.out f).1 h1, h2⟩, fun ⟨f, h1, h2⟩ => ⟨f, (mq_step HV.out.ats HG.out HBS.out f).2 h1, h2⟩⟩)
            have HK7 := Lib.hid (HK6.out.row (p := b2) Hg8.out Hne.out)
            have hz : (srow b).size = (srow b2).size := by rw [srow_size, srow_size]
            clear hb2s hb6
            go_wp2_with (first | (refine wpList_store_row rfl 44 (.tmp 8) (.tmp 49) rfl g8 (srow b2) rfl rfl 44 _ HK6.out.s (sizeSet2 b2) hz (srow_one b2) ?_))
            generalize w6.setRow g8 (srow b2) = w7 at *
            go_wp2_with fail
            go_roundw
            case rel => exact ⟨i + 1, b2, by go_num, by omega, HK7.out, HB2.out⟩
            case measure => simp [intOf]; omega
      · have hi6' : ¬ (i : Int) < 6 := by omega
        have HBS6 := Lib.hid (show BSet b (mlv l L (fun f => f ∈ fs) 6) from by
          have e : i = 6 := by omega
          have := HBS.out
          rwa [e] at this)
        clear HBS
        have HGz := Lib.hid (setRow_heap wx g4 _ (srow b) _ _ HK.out.z)
        have HB9 := Lib.hid (below_setRow (b := g4) HK.out.b (by rw [Hg4.out]; exact Nat.le_refl _) (srow b))
        have hz : (srow fun _ => false).size = (srow b).size := by rw [srow_size, srow_size]
        go_wp2_with (first | (refine wpList_load_row rfl 44 (.tmp 8) rfl g8 rfl 44 (srow b) (0, 0) _ HK.out.s undSet rfl (sizeSet2 b) ?_) | (refine wpList_store_row rfl 44 (.tmp 4) (.tmp 51) rfl g4 (srow b) rfl rfl 44 _ HK.out.z (sizeSet2 b) hz (srow_one b) ?_))
        generalize wx.setRow g4 (srow b) = w9 at *
        refine bodyPost_ret (results_mdl _ _ g4 b rfl HGz.out) rfl ?_
        exact ⟨.inr ⟨L, b, HSt.out, rfl, HBS6.out⟩, HB9.out⟩
#print axioms ModelR_any
def keyR (f : RAt) : List Int := f.1 :: f.2
theorem keyR_inj {f g : RAt} (h : keyR f = keyR g) : f = g := by
  injection h with h1 h2
  exact Prod.ext h1 h2
/-- the keys of the facts below c -/
def KL (b : Nat → Bool) (c : Nat) (K : List (List Int)) : Prop := Strict K ∧ ∀ z, z ∈ K ↔ ∃ i, i < c ∧ b i = true ∧ z = keyR (unr i)
theorem kl_len {b : Nat → Bool} {c : Nat} {K : List (List Int)} (h : KL b c K) : K.length ≤ c := by
  have hn : K.Nodup := h.1.imp fun {x y} hxy e => by
    subst e
    rw [cmpL_refl] at hxy
    exact absurd hxy (by decide)
  have := len_le hn (m := (List.range c).map fun i => keyR (unr i)) fun x hx => by
    obtain ⟨i, hi, _, rfl⟩ := (h.2 x).1 hx
    exact List.mem_map.2 ⟨i, List.mem_range.2 hi, rfl⟩
  simpa using this
theorem kl_0 (b : Nat → Bool) : KL b 0 [] := ⟨List.Pairwise.nil, fun z => ⟨fun h => (by cases h), fun ⟨i, h, _⟩ => absurd h (Nat.not_lt_zero _)⟩⟩
theorem kl_put {b : Nat → Bool} {c : Nat} {K R : List (List Int)} (h : KL b c K) (hb : b c = true) (hp : PutR K (keyR (unr c)) R) : KL b (c + 1) R := by
  refine ⟨hp.1, fun z => ?_⟩
  rw [hp.2, h.2]
  constructor
  · rintro (⟨i, h1, h2, h3⟩ | h1)
    · exact ⟨i, by omega, h2, h3⟩
    · exact ⟨c, by omega, hb, h1⟩
  · rintro ⟨i, h1, h2, h3⟩
    by_cases e : i = c
    · subst e; exact .inr h3
    · exact .inl ⟨i, by omega, h2, h3⟩
theorem kl_skip {b : Nat → Bool} {c : Nat} {K : List (List Int)} (h : KL b c K) (hb : ¬ b c = true) : KL b (c + 1) K := by
  refine ⟨h.1, fun z => (h.2 z).trans ⟨fun ⟨i, h1, h2⟩ => ⟨i, by omega, h2⟩, fun ⟨i, h1, h2, h3⟩ => ⟨i, ?_, h2, h3⟩⟩⟩
  by_cases e : i = c
  · subst e; exact absurd h2 hb
  · omega
/-- the facts of keys -/
def fcK (K : List (List Int)) : List RAt := K.map fun z => (z.headD 0, z.tail)
theorem cmp_pcd {f g : RAt} (hf : FcR f) (hg : FcR g) (h : cmpL (keyR f) (keyR g) < 0) : pcd f < pcd g := by
  rcases fc_cases hf with ⟨r, a, rfl, h1, h2⟩ | ⟨r, a, c, rfl, h1, h2, h3⟩ <;> rcases fc_cases hg with ⟨s, x, rfl, k1, k2⟩ | ⟨s, x, y, rfl, k1, k2, k3⟩ <;>
    (simp only [keyR, cmpL] at h
     simp [pcd]
     by_cases e1 : r < s
     · omega
     · by_cases e2 : s < r
       · rw [if_neg e1, if_pos e2] at h; omega
       · rw [if_neg e1, if_neg e2] at h
         by_cases e3 : a < x
         · omega
         · by_cases e4 : x < a
           · rw [if_neg e3, if_pos e4] at h; omega
           · rw [if_neg e3, if_neg e4] at h
             first
               | omega
               | (by_cases e5 : c < y
                  · omega
                  · by_cases e6 : y < c
                    · rw [if_neg e5, if_pos e6] at h; omega
                    · rw [if_neg e5, if_neg e6] at h; omega))
theorem kl_srt {b : Nat → Bool} {K : List (List Int)} (h : KL b 252 K) : SrtF (fcK K) (fun f => FcR f ∧ b (rcd f).toNat = true) := by
  have hm : ∀ f, f ∈ fcK K ↔ ∃ i, i < 252 ∧ b i = true ∧ f = unr i := fun f => by
    unfold fcK
    rw [List.mem_map]
    constructor
    · rintro ⟨z, hz, rfl⟩
      obtain ⟨i, h1, h2, rfl⟩ := (h.2 z).1 hz
      exact ⟨i, h1, h2, rfl⟩
    · rintro ⟨i, h1, h2, rfl⟩
      exact ⟨keyR (unr i), (h.2 _).2 ⟨i, h1, h2, rfl⟩, rfl⟩
  refine ⟨fun f => (hm f).trans ⟨?_, ?_⟩, ?_, fun f hf => ?_⟩
  · rintro ⟨i, h1, h2, rfl⟩
    obtain ⟨u1, u2⟩ := unr_fc h1
    exact ⟨u1, by rw [u2, Int.toNat_natCast]; exact h2⟩
  · rintro ⟨h1, h2⟩
    have := rcd_range h1
    exact ⟨(rcd f).toNat, by omega, h2, (unr_rcd h1).symm⟩
  · unfold fcK
    rw [List.pairwise_map]
    refine h.1.imp_of_mem fun {x y} hx hy hxy => ?_
    obtain ⟨i, i1, _, rfl⟩ := (h.2 x).1 hx
    obtain ⟨j, j1, _, rfl⟩ := (h.2 y).1 hy
    exact cmp_pcd (unr_fc i1).1 (unr_fc j1).1 hxy
  · obtain ⟨i, h1, _, rfl⟩ := (hm f).1 hf
    exact (unr_fc h1).1
theorem tail_sliceR {w : World} {a : Option Addr} {n c : Nat} {r : Int} {A : List Int} (h : Ints w (.slice a n c) (r :: A)) (hA : 1 ≤ A.length) : ∃ b off, a = some ⟨b, off, none⟩ ∧ w.cell? ⟨b, off, none⟩ = some (.int .i64 r) ∧ Ints w (.slice (some ⟨b, off + 1, none⟩) (n - 1) (c - 1)) A ∧ 0 < n ∧ (1 : Int) ≤ n ∧ c ≠ 1 := by
  obtain ⟨h1, h2, a', b, off, cap, e, ⟨h4, h4b⟩, h5⟩ := h
  injection e with e1 e2 e3
  subst e1 e2 e3
  simp only [List.length_cons] at h1 h2 h4 h4b h5 ⊢
  have ea := h4 (by omega)
  subst ea
  refine ⟨b, off, rfl, h5 0 (by simp), ?_, by omega, by omega, by omega⟩
  refine ⟨by simp, by omega, some ⟨b, off + 1, none⟩, b, off + 1, c - 1, by rw [Nat.add_sub_cancel], ⟨fun _ => rfl, by omega⟩, fun j hj => ?_⟩
  have hj' : j < A.length := by simpa using hj
  have := h5 (j + 1) (by simp; omega)
  rw [show off + 1 + j = off + (j + 1) by omega, this]
  simp
theorem rows_nil (w : World) : Rows w (.slice none 0 0) [] := ⟨[], rfl, ⟨rfl, Nat.zero_le _, none, 0, 0, 0, rfl, ⟨fun h => absurd h (Nat.lt_irrefl 0), Nat.le_refl _⟩, fun j hj => (by cases hj)⟩, fun i h => (by cases h)⟩
/-- a row of facts whose arguments lie where they lay in w -/
def WAt (w : World) (B : Nat) (wr : World) (v : Value) (l : List RAt) : Prop := ∃ vs : List Value, vs.length = l.length ∧ wr.ownsRow B 50 2 v l.length (atC l vs) ∧ ∀ i, i < l.length → Ints w (vs.getD i (.bool false)) (aA l i)
theorem WAt.keep {w : World} {B : Nat} {wr w' : World} {v : Value} {l : List RAt} (h : WAt w B wr v l) (hb : Below wr.heap.size wr w') : WAt w B w' v l := by
  obtain ⟨vs, h1, h2, h3⟩ := h
  exact ⟨vs, h1, owns_keep h2 hb, h3⟩
theorem WAt.atoms {w : World} {B : Nat} {wr : World} {v : Value} {l : List RAt} (h : WAt w B wr v l) (hb : Below w.heap.size w wr) : Atoms wr v l := by
  obtain ⟨vs, h1, h2, h3⟩ := h
  exact ⟨vs, h1, owns_rd h2, fun i hi => (h3 i hi).keep hb⟩
theorem WAt.snoc {w : World} {B : Nat} {w' : World} {v' u : Value} {l : List RAt} {vs : List Value} {r : Int} {A : List Int} (h1 : vs.length = l.length) (h3 : ∀ i, i < l.length → Ints w (vs.getD i (.bool false)) (aA l i)) (hu : Ints w u A) (h : w'.ownsRow B 50 2 v' (l.length + 1) (atC l vs ++ [.int .i64 r, u])) : WAt w B w' v' (l ++ [(r, A)]) := by
  refine ⟨vs ++ [u], by simp [h1], by rw [atC_snoc h1]; simpa using h, fun i hi => ?_⟩
  rw [List.length_append] at hi
  by_cases e2 : i < l.length
  · rw [show aA (l ++ [(r, A)]) i = aA l i by unfold aA; rw [List.getD_eq_getElem?_getD, List.getD_eq_getElem?_getD, List.getElem?_append_left e2], show (vs ++ [u]).getD i (.bool false) = vs.getD i (.bool false) by rw [List.getD_eq_getElem?_getD, List.getD_eq_getElem?_getD, List.getElem?_append_left (by omega)]]
    exact h3 i e2
  · have e3 : i = l.length := by simp at hi; omega
    subst e3
    rw [show aA (l ++ [(r, A)]) l.length = A by simp [aA], show (vs ++ [u]).getD l.length (.bool false) = u by rw [← h1]; simp]
    exact hu
theorem infoFc : (Try.prog.info? 50).map (fun i => (i.zero, i.size, i.bytes)) = some (some (.agg #[.int .i64 0, .slice none 0 0]), 2, 32) := by kernel_rfl
theorem elemFcs : Elem Try.prog 39 50 2 32 := elem_of Try.underlying39 infoFc rfl (by omega) (by omega)
set_option maxRecDepth 100000 in
set_option maxHeartbeats 16000000 in
theorem ListR_any (b : Nat → Bool) (w : World) :
    Calls Try.prog 32 #[.agg (srow b)] w fun e w' => ∃ (a : Option Addr) (n c : Nat) (cs : List RAt), e = .returned (.slice a n c) ∧ Atoms w' (.slice a n c) cs ∧ SrtF cs (fun f => FcR f ∧ b (rcd f).toNat = true) ∧ Below w.heap.size w w' := by
  obtain ⟨w1, hw1⟩ : ∃ x, x = w.alloc (.cells (srow b) 44) := ⟨_, rfl⟩
  obtain ⟨g, hg⟩ : ∃ x, x = w.heap.size := ⟨_, rfl⟩
  have HS1 := Lib.hid (show SetB w1 g b from by unfold SetB; rw [hw1, hg]; exact heap_alloc_new _ _)
  have HB1 := Lib.hid (show Below w.heap.size w w1 from by rw [hw1]; exact below_alloc _ _)
  have Hw1 := Lib.hid hw1
  have Hg := Lib.hid hg
  clear hw1 hg
  go_enter Try.func32, Try.ntmps32
  go_upto_region 1 with fail
  rw [← Hw1.out, ← Hg.out]
  clear Hw1
  go_wp2_with (first | (refine wpList_load_row rfl 44 (.tmp 1) rfl g rfl 44 (srow b) (0, 0) _ HS1.out undSet rfl (sizeSet2 b) ?_))
  go_loopw [3, 10] (fun vo vi wr => ∃ (c : Nat) (oa : Option Addr) (on oc : Nat) (K : List (List Int)), vo = .slice oa on oc ∧ vi = .int .i64 c ∧ c ≤ 252 ∧ Rows wr (.slice oa on oc) K ∧ KL b c K ∧ Below w.heap.size w wr) (fun _ vi _ => 252 - (intOf vi).toNat)
  case atStart => exact ⟨0, none, 0, 0, [], rfl, rfl, by omega, rows_nil _, kl_0 b, HB1.out⟩
  case round =>
    clear HB1 HS1
    generalize wr = wx at *
    obtain ⟨c, oa, on, oc, K, rfl, rfl, hc, hK, hk, hb⟩ := hrel
    have HK := Lib.hid hK
    have Hk := Lib.hid hk
    have HB := Lib.hid hb
    clear hK hk hb
    by_cases hlt : c < 252
    · have hci : (c : Int) < 252 := by omega
      have hix := fun w' => run_index_arr (P := Try.prog) (t := 44) (e := 4) (n := 252) (cs := srow b) (i := c) undSet (by intro w; kernel_rfl) (by intro w; kernel_rfl) hlt (srow_at hlt) w'
      have HPut := Lib.hid (fun R (hb : b c = true) hp => kl_put (R := R) Hk.out hb hp)
      have HSk := Lib.hid (fun (hb : ¬ b c = true) => kl_skip Hk.out hb)
      obtain ⟨bc, hbc⟩ : ∃ x, x = b c := ⟨_, rfl⟩
      rw [← hbc] at hix HPut HSk
      clear hbc
      cases bc
      · have Hk2 := Lib.hid (HSk.out (by simp))
        clear HPut HSk
        go_wp2_with fail
        go_roundw
        case rel => exact ⟨c + 1, oa, on, oc, K, rfl, by go_num, by omega, HK.out, Hk2.out, HB.out⟩
        case measure => simp [intOf]; omega
      · have HC := Lib.hid (FactR_any c hlt wx)
        have hu2 := (unr_fc hlt).1.2.1.2
        have hkl := kl_len Hk.out
        have Hu2 := Lib.hid (show (unr c).2.length ≤ 1000000 from by omega)
        have Hkl := Lib.hid (show K.length ≤ 1000000 from by omega)
        clear hu2 hkl
        go_wp2_with fail
        refine HC.out.mono ?_
        clear HC
        rintro e w2 ⟨fa, fn, fk, rfl, hfo, hb2⟩
        have HB2 := Lib.hid (Below.tr HB.out hb2)
        have HK2 := Lib.hid (HK.out.keep hb2)
        have HC := Lib.hid (key_any (unr c).1 (unr c).2 Hu2.out _ w2 hfo.ints)
        obtain ⟨r, hr⟩ : ∃ x, x = (unr c).1 := ⟨_, rfl⟩
        rw [← hr] at HC ⊢
        have Hr := Lib.hid hr
        clear hfo hb2 hr
        go_wp2_with fail
        refine HC.out.mono ?_
        clear HC
        rintro e w3 ⟨ka, kn, kk, rfl, hko, hb3⟩
        have HB3 := Lib.hid (Below.tr HB2.out hb3)
        have HC := Lib.hid (put_any K (r :: (unr c).2) Hk.out.1 Hkl.out _ _ w3 (HK2.out.keep hb3) hko.ints)
        clear hko hb3
        go_wp2_with fail
        refine HC.out.mono ?_
        clear HC
        rintro e w4 ⟨pa, pn, pk, rfl, ⟨R, hR, hP⟩, hb4⟩
        have HB4 := Lib.hid (Below.tr HB3.out hb4)
        have HR := Lib.hid hR
        have Hk2 := Lib.hid (HPut.out R (by first | rfl | trivial) (show PutR K (keyR (unr c)) R from by unfold keyR; rw [← Hr.out]; exact hP))
        clear hR hP hb4 HPut HSk
        go_wp2_with fail
        go_roundw
        case rel => exact ⟨c + 1, pa, pn, pk, R, rfl, by go_num, by omega, HR.out, Hk2.out, HB4.out⟩
        case measure => simp [intOf]; omega
    · have Hk2 := Lib.hid (show KL b 252 K from by
        have e : c = 252 := by omega
        have := Hk.out
        rwa [e] at this)
      have hci : ¬ (c : Int) < 252 := by omega
      obtain ⟨ra, rb, ro, rc, vs, hre, hrl, hri, hvl, hrc, hrI⟩ := Rows.get HK.out
      obtain ⟨kn, hkn⟩ : ∃ x, x = K.length := ⟨_, rfl⟩
      have Hkn := Lib.hid hkn
      rw [← hkn] at hre hrl hri
      injection hre with e1 e2 e3
      subst e1 e2 e3
      have HixK := Lib.hid (run_ix (P := Try.prog) (t := 140) (a := oa) (len := on) (cap := oc) (b := rb) (off := ro) (s := 1) Try.underlying140 (by intro w; kernel_rfl) hri)
      simp only [Nat.mul_one] at HixK
      have HrC := Lib.hid (show ∀ i (h : i < vs.length), wx.cell? ⟨rb, ro + i, none⟩ = some vs[i] from hrc)
      have HrI := Lib.hid (show ∀ i (h : i < K.length) (h' : i < vs.length), Ints wx vs[i] K[i] from hrI)
      have Hvl := Lib.hid (show vs.length = K.length from hvl)
      have hK252 := kl_len Hk2.out
      have hon : on ≤ 252 := by omega
      clear hkn hri hrc hrI hvl Hk hK252
      go_wp2_with fail
      go_loopw [6, 23] (fun vo vi wr => ∃ (j : Nat) (oa' : Option Addr) (on' oc' : Nat), vo = .slice oa' on' oc' ∧ vi = .int .i64 j ∧ j ≤ on ∧ Below wx.heap.size wx wr ∧ WAt wx wx.heap.size wr (.slice oa' on' oc') (fcK (K.take j))) (fun _ vi _ => on - (intOf vi).toNat)
      case atStart => exact ⟨0, none, 0, 0, rfl, rfl, Nat.zero_le _, Below.refl _ _, ⟨[], rfl, World.ownsRow_nil _ _ _ _, fun i hi => (by cases hi)⟩⟩
      case round =>
        generalize wr = wy at *
        obtain ⟨j, pa, pn, pc, rfl, rfl, hj, hb, ho⟩ := hrel
        have HBy := Lib.hid hb
        have HO := Lib.hid ho
        clear hb ho
        by_cases hlj : j < on
        · have hjK : j < K.length := by rw [← Hkn.out]; exact hlj
          have hjv : j < vs.length := by rw [Hvl.out]; exact hjK
          have cv := Below.keep HBy.out (HrC.out j hjv)
          have hI := HrI.out j hjK hjv
          have hixj := HixK.out j
          obtain ⟨i, hi1, _, hzi⟩ := (Hk2.out.2 K[j]).1 (List.getElem_mem hjK)
          have hfc := (unr_fc hi1).1
          have HTj := Lib.hid (show fcK (K.take (j + 1)) = fcK (K.take j) ++ [((unr i).1, (unr i).2)] from by
            unfold fcK
            rw [List.take_succ_eq_append_getElem hjK, List.map_append, hzi]; rfl)
          have hln : (fcK (K.take j)).length + 1 ≤ 100000000000 := by
            unfold fcK
            rw [List.length_map, List.length_take]; omega
          rw [hzi] at hI
          obtain ⟨za, zc, hze⟩ := ints_slice hI
          obtain ⟨zv, hzv⟩ : ∃ x, x = vs[j] := ⟨_, rfl⟩
          rw [← hzv] at cv hI hze
          subst hze
          obtain ⟨r, hr⟩ : ∃ x, x = (unr i).1 := ⟨_, rfl⟩
          obtain ⟨A, hA⟩ : ∃ x, x = (unr i).2 := ⟨_, rfl⟩
          unfold keyR at cv hI
          rw [← hr, ← hA] at cv hI HTj
          have hA1 : 1 ≤ A.length := by rw [hA]; exact hfc.2.1.1
          obtain ⟨zn, hzn⟩ : ∃ x, x = (r :: A).length := ⟨_, rfl⟩
          rw [← hzn] at cv hI
          obtain ⟨kb, ko, rfl, kc, kI, k0, k1, k2⟩ := tail_sliceR hI hA1
          have HkI := Lib.hid kI
          have HKc := Lib.hid kc
          have kc := Below.keep HBy.out kc
          have hix0 := fun w' => run_ix (P := Try.prog) (t := 23) (a := some ⟨kb, ko, none⟩) (len := zn) (cap := zc) (b := kb) (off := ko) (s := 1) Try.underlying23 (by intro w; kernel_rfl) (fun _ => rfl) 0 w' k0
          simp only [Nat.zero_mul, Nat.add_zero] at hix0
          clear hzi hfc hzv hr hA hzn hI hi1 kI hjK hjv
          go_upto_region 12 with fail
          clear cv hixj
          have HB0 := Lib.hid (show Below wx.heap.size wx wy.drew from HBy.out.drew)
          have HS0 := Lib.hid (show wy.drew.cell? ⟨kb, ko, none⟩ = some (.int .i64 r) from kc)
          have HO0 := Lib.hid (show WAt wx wx.heap.size wy.drew (.slice pa pn pc) (fcK (K.take j)) from by
            obtain ⟨vs', v1, v2, v3⟩ := HO.out
            exact ⟨vs', v1, World.ownsRow.drew v2, v3⟩)
          refine wp_region_held (S := fun w' => w'.cell? ⟨kb, ko, none⟩ = some (.int .i64 r)) wideK ?_
          change wpAnyH _ _ _ _ _ _ _ _ (World.drew _)
          clear kc HO HBy
          generalize wy.drew = wd0 at *
          refine wpAnyH_take (i := 0) (v := ?_) rfl (by kernel_rfl) (by kernel_rfl) (by kernel_rfl) (fun _ _ _ h => h) (Or.inl ⟨by rfl, ?_⟩) HS0.out ?_
          rotate_left
          focus (intro w hS; clear hS; first | (go_simp; done) | (go_simp; with_reducible rfl))
          simp only [Act.put, List.getElem_toArray, List.getElem_cons_zero, List.setIfInBounds_toArray, List.set_cons_zero, List.set_cons_succ]
          refine wpAnyH_take (i := 1) (v := ?_) rfl (by kernel_rfl) (by kernel_rfl) (by kernel_rfl) (fun _ _ _ h => h) (Or.inl ⟨by rfl, ?_⟩) HS0.out ?_
          rotate_left
          focus (intro w hS; clear hS; first | (go_simp; done) | (go_simp; with_reducible rfl))
          simp only [Act.put, List.getElem_toArray, List.getElem_cons_zero, List.getElem_cons_succ, List.setIfInBounds_toArray, List.set_cons_zero, List.set_cons_succ]
          refine wpAnyH_take (i := 2) (v := ?_) rfl (by kernel_rfl) (by kernel_rfl) (by kernel_rfl) (fun _ _ _ h => h) (Or.inl ⟨by rfl, ?_⟩) HS0.out ?_
          rotate_left
          focus (intro w hS; clear hS; first | (go_simp; done) | (go_simp; with_reducible rfl))
          simp only [Act.put, List.getElem_toArray, List.getElem_cons_zero, List.getElem_cons_succ, List.setIfInBounds_toArray, List.set_cons_zero, List.set_cons_succ]
          refine wpAnyH_take (i := 3) (v := ?_) rfl (by kernel_rfl) (by kernel_rfl) (by kernel_rfl) (fun _ _ _ h => h) (Or.inl ⟨by rfl, ?_⟩) HS0.out ?_
          rotate_left
          focus (intro w hS; have s0 := hS; clear hS; first | (go_simp; done) | (go_simp; with_reducible rfl))
          simp only [Act.put, List.getElem_toArray, List.getElem_cons_zero, List.getElem_cons_succ, List.setIfInBounds_toArray, List.set_cons_zero, List.set_cons_succ]
          refine wpAnyH_take (i := 4) (v := ?_) rfl (by kernel_rfl) (by kernel_rfl) (by kernel_rfl) (fun _ _ _ h => h) (Or.inl ⟨by rfl, ?_⟩) HS0.out ?_
          rotate_left
          focus (intro w hS; clear hS; first | (go_simp; done) | (go_simp; with_reducible rfl))
          simp only [Act.put, List.getElem_toArray, List.getElem_cons_zero, List.getElem_cons_succ, List.setIfInBounds_toArray, List.set_cons_zero, List.set_cons_succ]
          refine wpAnyH_take (i := 5) (v := ?_) rfl (by kernel_rfl) (by kernel_rfl) (by kernel_rfl) (fun _ _ _ h => h) (Or.inl ⟨by rfl, ?_⟩) HS0.out ?_
          rotate_left
          focus (intro w hS; clear hS; first | (go_simp; done) | (go_simp; with_reducible rfl))
          simp only [Act.put, List.getElem_toArray, List.getElem_cons_zero, List.getElem_cons_succ, List.setIfInBounds_toArray, List.set_cons_zero, List.set_cons_succ]
          refine wpAnyH_take (i := 6) (v := ?_) rfl (by kernel_rfl) (by kernel_rfl) (by kernel_rfl) (fun _ _ _ h => h) (Or.inl ⟨by rfl, ?_⟩) HS0.out ?_
          rotate_left
          focus (intro w hS; clear hS; first | (go_simp; done) | (go_simp; with_reducible rfl))
          simp only [Act.put, List.getElem_toArray, List.getElem_cons_zero, List.getElem_cons_succ, List.setIfInBounds_toArray, List.set_cons_zero, List.set_cons_succ]
          refine wpAnyH_ready (rs := [7]) (by kernel_rfl) (by simp) ?_
          refine RdyH.cons rfl (fun K2 hK => ?_) RdyH.nil
          obtain ⟨wd1, hwd⟩ : ∃ x, x = wd0.alloc (.cells #[.int .i64 r, .slice (some ⟨kb, ko + 1, none⟩) (zn - 1) (zc - 1)] 50) := ⟨_, rfl⟩
          have hb : Below wd0.heap.size wd0 wd1 := by rw [hwd]; exact below_alloc _ _
          obtain ⟨bm, hbm⟩ : ∃ x, x = wd0.heap.size := ⟨_, rfl⟩
          have HK := Lib.hid (show wd1.heap[bm]? = some (.cells #[.int .i64 r, .slice (some ⟨kb, ko + 1, none⟩) (zn - 1) (zc - 1)] 50 (0, 0)) from by rw [hwd, hbm]; exact heap_alloc_new _ _)
          have HB1 := Lib.hid (Below.tr HB0.out hb)
          have HO1 := Lib.hid (HO0.out.keep hb)
          have HS1 := Lib.hid (show wd1.cell? ⟨kb, ko, none⟩ = some (.int .i64 r) from Below.keep HB1.out HKc.out)
          go_simp
          rw [← hwd, ← hbm]
          clear hwd hbm hb
          refine hK _ _ HS1.out ?_
          clear hK K2
          refine wpAnyH_ready (rs := [8]) (by kernel_rfl) (by simp) ?_
          refine RdyH.cons rfl (fun K2 hK => ?_) RdyH.nil
          obtain ⟨vs', s1, s2, s3⟩ := HO1.out
          refine step_append_own_g rfl (.tmp 27) (.tmp 34) 39 rfl elemFcs rfl s2 (m := 1) [.int .i64 r, .slice (some ⟨kb, ko + 1, none⟩) (zn - 1) (zc - 1)] rfl rfl (fun k y hk => aCell HK.out k (by simpa using hk)) (by intro u hu; simp at hu; rcases hu with rfl | rfl <;> rfl) hln HB1.out.size ?_
          intro v9 wd2 h1 h2 h3
          have HO2 := Lib.hid (show WAt wx wx.heap.size wd2 v9 (fcK (K.take (j + 1))) from by
            rw [HTj.out]
            exact WAt.snoc s1 s3 HkI.out h1)
          have HB2 := Lib.hid (HB1.out.trans h2)
          have HS2 := Lib.hid (show wd2.cell? ⟨kb, ko, none⟩ = some (.int .i64 r) from Below.keep HB2.out HKc.out)
          obtain ⟨za', zn', zc', rfl⟩ := row_slice h1
          clear s1 s2 s3 h1 h2 h3
          refine hK _ _ HS2.out ?_
          clear hK K2
          refine wpAnyH_take (i := 9) (v := ?_) rfl (by kernel_rfl) (by kernel_rfl) (by kernel_rfl) (fun _ _ _ h => h) (Or.inl ⟨by rfl, ?_⟩) HS2.out ?_
          rotate_left
          focus (intro w hS; clear hS; first | (go_simp; done) | (go_simp; with_reducible rfl))
          simp only [Act.put, List.getElem_toArray, List.getElem_cons_zero, List.getElem_cons_succ, List.setIfInBounds_toArray, List.set_cons_zero, List.set_cons_succ]
          refine wpAnyH_done (by kernel_rfl) ?_ _
          go_wp2_with fail
          go_roundw
          case rel => exact ⟨j + 1, za', zn', zc', rfl, by go_num, by omega, HB2.out, HO2.out⟩
          case measure => simp [intOf]; omega
        · obtain rfl : j = on := by omega
          have HE := Lib.hid (show Atoms wy (.slice pa pn pc) (fcK K) from by
            have := HO.out.atoms HBy.out
            rwa [Hkn.out, List.take_length] at this)
          have HSr := Lib.hid (kl_srt Hk2.out)
          have HBw := Lib.hid (Below.tr HB.out HBy.out)
          go_wp2_with fail
          go_ret
          exact ⟨pa, pn, pc, _, rfl, HE.out, HSr.out, HBw.out⟩
#print axioms ListR_any
end Go.Proofs.Ythndplkjhbmfmaa

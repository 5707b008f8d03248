/- Contracts of depend.Holds, rowOutside, Refute. -/
import Derived.Test.YtnidalbfmicoiaaWalkT
namespace Go.Proofs.Ytnidalbfmicoiaa
open Go.RowKit

theorem TableP.nat {n : Nat} {R : List (List Int)} (h : TableP (n : Int) R) : R.length ≤ 60 ∧ ∀ r ∈ R, r.length = n := ⟨h.1, fun r hr => by have := h.2 r hr; omega⟩
set_option maxRecDepth 100000 in
theorem holds_ok {n s t : Nat} (h1 : 1 ≤ n) (h8 : n ≤ 8) (hs : s < 2 ^ n) (ht : t < 2 ^ n) (R : List (List Int)) (hR : TableP (n : Int) R) (v : Value) (w : World) (hv : Rows w v R) :
    Calls Try.prog 46 #[.int .i64 n, v, .agg #[.int .i64 s, .int .i64 t]] w fun e w' => e = .returned (.tuple #[.bool (decide (HoldsR R s t)), .int .i64 0]) ∧ Below w.heap.size w w' := by
  have Hv := Lib.hid hv
  have hp := pow_small n h8
  have H1 := Lib.hid (show ValidP n [] [(s : Int), (t : Int)] from validP_nat (l := []) h1 h8 (by simp) (fun d hd => by simp at hd) (t := [s, t]) (by simp; exact ⟨hs, ht⟩))
  have H2 := Lib.hid (decide_eq_true hR)
  obtain ⟨h60, hlen⟩ := hR.nat
  have Hlen := Lib.hid hlen
  have Halt := Lib.hid (fun e he => agr_lt (R := R) (n := n) (e := e) hlen he)
  have hs' : s < 256 := by omega
  have ht' : t < 256 := by omega
  have c0 := cell_new w #[.int .i64 (s : Int), .int .i64 (t : Int)] 32 0
  have c1 := cell_new w #[.int .i64 (s : Int), .int .i64 (t : Int)] 32 1
  have C0 := Lib.hid (fun w2 h2 => Below.keep (w' := w2) h2 c0)
  have C1 := Lib.hid (fun w2 h2 => Below.keep (w' := w2) h2 c1)
  have Hp := Lib.hid hp
  clear hv hR hlen c0 c1 hs ht hp
  go_enter Try.func46, Try.ntmps46
  go_wp2_with fail
  refine (valid_yes (by exact deps_nil _) (by exact ints_two _ _ _ _ _ (by simp)) H1.out).mono ?_
  rintro e w1 ⟨rfl, hb1⟩
  have Hb1 := Lib.hid (Below.tr (below_alloc _ _) hb1)
  clear hb1
  go_wp2_with fail
  refine (validTable_any n R v _ (Rows.keep Hv.out (Below.tr (below_alloc _ _) Hb1.out))).mono ?_
  rintro e w2 ⟨rfl, rfl⟩
  rw [H2.out]
  go_wp2_with fail
  refine (agreements_any R n h8 Hlen.out h60 v _ (Rows.keep Hv.out (Below.tr (below_alloc _ _) Hb1.out))).mono ?_
  rintro e w3 ⟨u, rfl, hu, hb3⟩
  have Hb3 := Lib.hid (Below.tr Hb1.out hb3)
  obtain ⟨a, b, off, cap, rfl, hle, ha, hc⟩ := Ints.get hu.ints
  have e0 : ((agrs R R.length).map fun x : Nat => (x : Int)).length = (agrs R R.length).length := by simp
  obtain ⟨A, hA⟩ : ∃ A, A = agrs R R.length := ⟨_, rfl⟩
  have HA := Lib.hid hA
  have hc' : ∀ i (h : i < A.length), w3.cell? ⟨b, off + i, none⟩ = some (.int .i64 ((A[i] : Nat) : Int)) := by
    subst hA
    intro i hi
    have := hc i (by simpa using hi)
    simpa using this
  rw [e0, ← hA] at hle ha
  rw [e0, ← hA]
  have hix := run_ix (P := Try.prog) (t := 56) (a := a) (len := A.length) (cap := cap) (b := b) (off := off) (s := 1) Try.underlying56 (by intro w; kernel_rfl) ha
  simp only [Nat.mul_one] at hix
  have Hc := Lib.hid hc'
  clear hb3 hu ha hc hc' e0 hA
  go_wp2_with fail
  go_loopw [27] (fun i wr => ∃ k : Nat, i = .int .i64 k ∧ k ≤ A.length ∧ Below w3.heap.size w3 wr ∧ AllTo (fun e : Nat => Sub s e → Sub t e) A k) (fun i _ => A.length - (intOf i).toNat)
  case atStart => exact ⟨0, rfl, Nat.zero_le _, Below.refl _ _, fun i _ h => by omega⟩
  case round =>
    obtain ⟨k, rfl, hk, hb, hin⟩ := hrel
    have Hb := Lib.hid hb
    have Hin := Lib.hid hin
    clear hb hin
    by_cases hlt : k < A.length
    · have hc1 := Below.keep Hb.out (Hc.out k hlt)
      have k0 := C0.out _ (Below.tr Hb3.out Hb.out)
      have k1 := C1.out _ (Below.tr Hb3.out Hb.out)
      have hAk : A[k] < 256 := by have := Halt.out A[k] (by rw [← HA.out]; exact List.getElem_mem hlt); have := Hp.out; omega
      have t1 := test_sub s A[k] (by omega) (by omega)
      have t2 := test_sub t A[k] (by omega) (by omega)
      by_cases hS : Sub s A[k]
      · by_cases hT : Sub t A[k]
        · have HR := Lib.hid (Hin.out.step hlt (fun _ => hT))
          go_wp2
          go_roundw
          case rel => exact ⟨k + 1, by go_num, by omega, Hb.out, HR.out⟩
          case measure => simp [intOf]; omega
        · have HR := Lib.hid (show decide (HoldsR R s t) = false from decide_eq_false fun h => hT (h _ (by rw [← HA.out]; exact List.getElem_mem hlt) hS))
          go_wp2
          go_ret2
          exact ⟨by rw [HR.out]; rfl, Below.tr (below_alloc _ _) (Below.tr Hb3.out Hb.out)⟩
      · have HR := Lib.hid (Hin.out.step hlt (fun h => absurd h hS))
        go_wp2
        go_roundw
        case rel => exact ⟨k + 1, by go_num, by omega, Hb.out, HR.out⟩
        case measure => simp [intOf]; omega
    · obtain rfl : k = A.length := by omega
      have HR := Lib.hid (show decide (HoldsR R s t) = true from decide_eq_true fun e he => Hin.out.all e (by rw [HA.out]; exact he))
      go_wp2
      go_ret2
      exact ⟨by rw [HR.out]; rfl, Below.tr (below_alloc _ _) (Below.tr Hb3.out Hb.out)⟩

/-- a row that is 0 in the set s, and x elsewhere -/
def outRow (s : Nat) (x : Int) (n : Nat) : List Int := (List.range n).map fun a => if s.testBit a then 0 else x
/-- .. its first k numbers, 0 behind them -/
def outTo (s : Nat) (x : Int) (n k : Nat) : List Int := (List.range n).map fun a => if a < k ∧ s.testBit a = false then x else 0
theorem outTo_zero (s : Nat) (x : Int) (n : Nat) : outTo s x n 0 = List.replicate n 0 := by
  unfold outTo
  simp only [Nat.not_lt_zero, false_and, if_false]
  rw [List.map_const', List.length_range]
theorem outTo_full (s : Nat) (x : Int) (n : Nat) : outTo s x n n = outRow s x n := by
  unfold outTo outRow
  apply List.map_congr_left
  intro a ha
  have := List.mem_range.1 ha
  cases s.testBit a <;> simp [this]
theorem outTo_skip {s : Nat} (x : Int) (n : Nat) {k : Nat} (h : s.testBit k = true) : outTo s x n (k + 1) = outTo s x n k := by
  unfold outTo
  apply List.map_congr_left
  intro a _
  by_cases e : a = k
  · subst e; simp [h]
  · have : (a < k + 1) ↔ a < k := by omega
    simp [this]
theorem outTo_set {s : Nat} (x : Int) (n : Nat) {k : Nat} (h : s.testBit k = false) : outTo s x n (k + 1) = (outTo s x n k).set k x := by
  apply List.ext_getElem (by simp [outTo])
  intro i h1 h2
  simp only [outTo, List.getElem_map, List.getElem_range, List.getElem_set]
  by_cases e : k = i
  · subst e; simp [h]
  · have : (i < k + 1) ↔ i < k := by omega
    simp [e, this]

theorem shr_bit (s k : Nat) (h : s < 256) : bits .and .i64 ((s : Int) / 2 ^ k) 1 = ((if s.testBit k then 1 else 0 : Nat) : Int) := by
  have e : ((s : Int) / 2 ^ k) = ((s / 2 ^ k : Nat) : Int) := by simp
  have h1 : s / 2 ^ k ≤ s := Nat.div_le_self _ _
  rw [e, show (1 : Int) = ((1 : Nat) : Int) from rfl, bits_and_nat _ _ (by omega) (by omega), Nat.testBit_eq_decide_div_mod_eq, Nat.and_one_is_mod]
  have := Nat.mod_two_eq_zero_or_one (s / 2 ^ k)
  rcases this with h | h <;> simp [h]

/-- the row at g, k of whose numbers are done -/
def OutRow (w : World) (base g n s : Nat) (x : Int) (k : Nat) : Prop := w.ownsRow base 3 1 (.slice (some ⟨g, 0, none⟩) n n) n ((outTo s x n k).map (Value.int .i64))
set_option maxRecDepth 100000 in
theorem rowOutside_any (n s : Nat) (x : Int) (h8 : n ≤ 8) (hs : s < 256) (w : World) :
    Calls Try.prog 73 #[.int .i64 n, .int .i64 s, .int .i64 x] w fun e w' => e = .returned (.slice (some ⟨w.heap.size, 0, none⟩) n n) ∧
      w'.ownsRow w.heap.size 3 1 (.slice (some ⟨w.heap.size, 0, none⟩) n n) n ((outRow s x n).map (Value.int .i64)) ∧ Below w.heap.size w w' := by
  obtain ⟨i0, hi, hz0, hz1, hz2⟩ := info_parts info3
  have Hi := Lib.hid hi
  have Hz0 := Lib.hid hz0
  have Hz1 := Lib.hid hz1
  have hby : i0.bytes * n ≤ 281474976710656 := by rw [hz2]; omega
  have Hby := Lib.hid hby
  clear hi hz0 hz1 hz2 hby
  go_enter Try.func73, Try.ntmps73
  go_wp2_with (refine wpList_make_full _ rfl (.tmp 9) (.tmp 9) 56 rfl w.heap.size 3 i0 (.int .i64 0) 1 Try.underlying56 Hi.out Hz0.out Hz1.out .i64 .i64 _ _ n rfl rfl rfl rfl Hby.out (by unfold maxLen; omega) (Nat.le_refl _) ?_; intro w1 hown hg)
  have hrow : OutRow w1 w.heap.size w.heap.size n s x 0 := by
    unfold OutRow
    rw [outTo_zero]
    have e : (madeCells (Value.int IntKind.i64 0).cells (n * 1)).toList = List.replicate n (Value.int .i64 0) := by rw [Nat.mul_one]; exact toList_madeCells_one _ _
    rw [e] at hown
    rw [List.map_replicate]
    exact hown
  have hb1 : Below w.heap.size w w1 := (Below.refl _ _).grown hg (Nat.le_refl _) (fun k hk => by cases hk)
  have Hrow := Lib.hid hrow
  have Hb1 := Lib.hid hb1
  clear hrow hb1 hown hg
  go_loopw [13] (fun i wr => ∃ k : Nat, i = .int .i64 k ∧ k ≤ n ∧ Below w.heap.size w wr ∧ OutRow wr w.heap.size w.heap.size n s x k) (fun i _ => n - (intOf i).toNat)
  case atStart => exact ⟨0, rfl, Nat.zero_le _, Hb1.out, Hrow.out⟩
  case round =>
    obtain ⟨k, rfl, hk, hb, hown⟩ := hrel
    have Hb := Lib.hid hb
    have Hown := Lib.hid hown
    clear hb hown
    by_cases hlt : k < n
    · have t1 := shr_bit s k hs
      have hfz := World.ownsRow.frozenAt Hown.out k
      have hcell := World.ownsRow.cellAt Hown.out k (by omega)
      rw [List.getElem?_map, List.getElem?_eq_getElem (by simp [outTo]; omega), Option.map_some] at hcell
      cases hbit : s.testBit k with
      | true =>
        have HR := Lib.hid (show OutRow wr w.heap.size w.heap.size n s x (k + 1) by unfold OutRow; rw [outTo_skip x n hbit]; exact Hown.out)
        rw [hbit] at t1
        simp only [if_true] at t1
        go_wp2
        go_roundw
        case rel => exact ⟨k + 1, by go_num, by omega, Hb.out, HR.out⟩
        case measure => simp [intOf]; omega
      | false =>
        have hst := (World.ownsRow.stored Hown.out k (.int .i64 x))
        have HR := Lib.hid (show OutRow (wr.setCell ⟨w.heap.size, k, none⟩ (.int .i64 x)) w.heap.size w.heap.size n s x (k + 1) by unfold OutRow; rw [outTo_set x n hbit, List.map_set]; exact hst.1)
        rw [hbit] at t1
        clear hst
        simp only [Bool.false_eq_true, if_false] at t1
        go_wp2
        go_roundw
        case rel => exact ⟨k + 1, by go_num, by omega, Hb.out.setCell (Nat.le_refl _) _, HR.out⟩
        case measure => simp [intOf]; omega
    · obtain rfl : k = n := by omega
      go_wp2
      go_ret
      refine ⟨rfl, ?_, Hb.out⟩
      rw [← outTo_full]
      exact Hown.out
end Go.Proofs.Ytnidalbfmicoiaa

/- Rows of rows of the call's own; the contract of depend.Armstrong. -/
import Derived.Test.YtnidalbfmicoiaaWalkX
import Derived.Test.YtnidalbfmicoiaaWalkV
import Derived.Test.YtnidalbfmicoiaaWalkG
namespace Go.Proofs.Ytnidalbfmicoiaa
open Go.RowKit

/-- a slice of slices of ints, all of it the call's own -/
def OwnRows (base : Nat) (w : World) (o : Value) (L : List (List Int)) : Prop :=
  ∃ vs : List Value, vs.length = L.length ∧ w.ownsRow base 56 1 o L.length vs ∧ ∀ i (h : i < vs.length) (h' : i < L.length), OwnInts base w vs[i] L[i]
theorem OwnRows.keep {base : Nat} {L : List (List Int)} {w w' : World} {o : Value} (h : OwnRows base w o L) (hb : Below w.heap.size w w') : OwnRows base w' o L := by
  obtain ⟨vs, h1, h2, h3⟩ := h
  exact ⟨vs, h1, owns_keep h2 hb, fun i a b => (h3 i a b).keep hb⟩
theorem OwnRows.rows {base : Nat} {L : List (List Int)} {w : World} {o : Value} (h : OwnRows base w o L) : Rows w o L := by
  obtain ⟨vs, h1, h2, h3⟩ := h
  exact ⟨vs, h1, owns_rd h2, fun i a b => (h3 i b a).ints⟩
theorem OwnRows.step {base n : Nat} {L : List (List Int)} {w1 w2 : World} {o v' u : Value} {vs : List Value} {x : List Int} (h1 : vs.length = L.length) (h2 : w1.ownsRow base 56 1 o L.length vs) (h3 : ∀ i (h : i < vs.length) (h' : i < L.length), OwnInts base w1 vs[i] L[i])
    (hu : OwnInts base w1 u x) (hn : n = L.length + 1) (h4 : w2.ownsRow base 56 1 v' n (vs ++ [u])) (hg : w1.grownBy w2 o.ownBlock) : OwnRows base w2 v' (L ++ [x]) := by
  subst hn
  have key : ∀ z l, OwnInts base w1 z l → OwnInts base w2 z l := fun z l hz => World.ownsRow.kept hz hg (rows_apart hz h2 (by decide))
  refine ⟨vs ++ [u], by simp [h1], by simpa using h4, fun i a b => ?_⟩
  by_cases e : i < vs.length
  · rw [List.getElem_append_left e, List.getElem_append_left (by omega)]; exact key _ _ (h3 i e (by omega))
  · have e2 : i = L.length := by simp at b; omega
    subst e2
    rw [List.getElem_append_right (by omega), List.getElem_append_right (by omega)]
    simp only [h1, Nat.sub_self, List.getElem_cons_zero]
    exact key _ _ hu
theorem rowOwn {w : World} {base base' g g' n s : Nat} {x : Int} (h : w.ownsRow base 3 1 (.slice (some ⟨g, 0, none⟩) n n) n ((outRow s x n).map (Value.int .i64))) (hb : base' ≤ base) (hg : g' = g) : OwnInts base' w (.slice (some ⟨g', 0, none⟩) n n) (outRow s x n) := by
  subst hg
  unfold OwnInts
  rw [show (outRow s x n).length = n by simp [outRow]]
  exact owns_base h hb

theorem ownRow_slice {w : World} {base : Nat} {e : TypeId} {size : Nat} {v : Value} {n : Nat} {xs : List Value} (h : w.ownsRow base e size v n xs) : ∃ a c, v = .slice a n c := by
  rcases h.2 with ⟨rfl, rfl⟩ | ⟨g, cap, cur, rfl, _⟩ <;> exact ⟨_, _, rfl⟩
/-- Armstrong's table, the sets below k done -/
def armTo (l : List DepN) (n : Nat) : Nat → List (List Int)
  | 0 => [List.replicate n 0]
  | k + 1 => if cl l k = k then armTo l n k ++ [outRow k ((armTo l n k).length : Nat) n] else armTo l n k
theorem armTo_length (l : List DepN) (n : Nat) : ∀ k, 1 ≤ (armTo l n k).length ∧ (armTo l n k).length ≤ k + 1
  | 0 => by simp [armTo]
  | k + 1 => by
    have := armTo_length l n k
    rw [armTo]
    split
    · simp; omega
    · omega

theorem arm_bad (n : Int) (l : List (Int × Int)) (v : Value) (w : World) (hv : Deps w v l) (hbad : ¬ ValidP n l []) :
    Calls Try.prog 52 #[.int .i64 n, v] w fun e w' => e = .returned (.tuple #[.slice none 0 0, .int .i64 2]) ∧ Below w.heap.size w w' := by
  have H := Lib.hid (valid_no hv (ints_nil w) hbad)
  clear hv hbad
  go_enter Try.func52, Try.ntmps52
  go_wp2_with fail
  refine H.out.mono ?_
  rintro e w1 ⟨rfl, hb1⟩
  go_wp2_with fail
  go_ret2
  exact ⟨rfl, hb1⟩

set_option maxRecDepth 100000 in
theorem arm_F {m F : Nat} {l : List DepN} (hok : Okl m l) (hF : F = 2 ^ m) (v : Value) (w : World) (hv : Deps w v (castD l)) :
    Calls Try.prog 52 #[.int .i64 m, v] w fun e w' => ∃ v', e = .returned (.tuple #[v', .int .i64 0]) ∧ Rows w' v' (armTo l m (F - 1)) ∧ Below w.heap.size w w' := by
  have hgood : ValidP m (castD l) [] := validP_nat hok.h1 hok.h8 hok.h12 hok.hl (t := []) (by simp)
  have H := Lib.hid (valid_yes hv (ints_nil w) hgood)
  obtain ⟨p1, p2⟩ := hok.pow
  rw [← hF] at p1 p2
  have HF := Lib.hid hF
  have hlt := hok.lt
  have Hv := Lib.hid hv
  obtain ⟨a, b, off, cap, hva, -⟩ := Deps.get hv
  subst hva
  obtain ⟨i0, hi, hz0, hz1, hz2⟩ := info_parts info3
  have Hi := Lib.hid hi
  have Hz0 := Lib.hid hz0
  have Hz1 := Lib.hid hz1
  have hm8 := hok.h8
  have hby : i0.bytes * m ≤ 281474976710656 := by rw [hz2]; omega
  have Hby := Lib.hid hby
  clear hi hz0 hz1 hz2 hby hv hgood hF
  go_enter Try.func52, Try.ntmps52
  go_wp2_with fail
  refine H.out.mono ?_
  rintro e w1 ⟨rfl, hb1⟩
  have Hb1 := Lib.hid hb1
  clear hb1 H
  go_wp2_with fail
  refine (closer_any _ _ _ _).mono ?_
  rintro e w2 ⟨rfl, hw2⟩
  have hbox := cell_new w1 #[.slice a (castD l).length cap] 28 0
  have hb2 := below_alloc w1 (.cells #[.slice a (castD l).length cap] 28)
  rw [hw2] at hbox hb2
  have Hbox := Lib.hid hbox
  have Hb2 := Lib.hid (Below.tr Hb1.out hb2)
  clear hw2 hbox hb2
  go_wp2_with (refine wpList_make_full _ rfl (.tmp 15) (.tmp 15) 56 rfl w2.heap.size 3 i0 (.int .i64 0) 1 Try.underlying56 Hi.out Hz0.out Hz1.out .i64 .i64 _ _ m rfl rfl rfl rfl Hby.out (by unfold maxLen; omega) (Nat.le_refl _) ?_; intro w3 hown hg)
  have hz : OwnInts w2.heap.size w3 (.slice (some ⟨w2.heap.size, 0, none⟩) m m) (List.replicate m 0) := by
    have e : (madeCells (Value.int IntKind.i64 0).cells (m * 1)).toList = (List.replicate m (0 : Int)).map (Value.int .i64) := by rw [Nat.mul_one]; exact zeros_list m
    rw [e] at hown
    unfold OwnInts
    simpa using hown
  have hb3 : Below w2.heap.size w2 w3 := (Below.refl _ _).grown hg (Nat.le_refl _) (fun k hk => by cases hk)
  have Hz := Lib.hid hz
  have Hb3 := Lib.hid hb3
  clear hown hg hz hb3
  go_wp2_with fail
  refine (full_F HF.out hm8 _).mono ?_
  rintro e w4 ⟨rfl, rfl⟩
  have hrow0 : OwnRows w2.heap.size (w3.alloc (.cells #[.slice (some ⟨w2.heap.size, 0, none⟩) m m] 56)) (.slice (some ⟨w3.heap.size, 0, none⟩) 1 1) (armTo l m 0) := by
    refine ⟨[.slice (some ⟨w2.heap.size, 0, none⟩) m m], rfl, World.ownsRow_lit w3 #[.slice (some ⟨w2.heap.size, 0, none⟩) m m] 1 Hb3.out.size (by unfold maxLen; omega) rfl, fun i h h' => ?_⟩
    match i, h with
    | 0, _ => exact Hz.out.keep (below_alloc _ _)
  have Hrow0 := Lib.hid hrow0
  have Hb4 := Lib.hid (Below.tr Hb3.out (below_alloc w3 (.cells #[.slice (some ⟨w2.heap.size, 0, none⟩) m m] 56)))
  clear hrow0
  generalize w3.alloc (.cells #[.slice (some ⟨w2.heap.size, 0, none⟩) m m] 56) = w4 at *
  go_wp2_with fail
  go_loopw [7, 20] (fun o i wr => ∃ k : Nat, ∃ (oa : Option Addr) (oc : Nat), o = .slice oa (armTo l m k).length oc ∧ i = .int .i64 k ∧ k ≤ F - 1 ∧ Below w2.heap.size w2 wr ∧ OwnRows w2.heap.size wr (.slice oa (armTo l m k).length oc) (armTo l m k)) (fun _ i _ => F - (intOf i).toNat)
  case atStart => exact ⟨0, _, _, rfl, rfl, Nat.zero_le _, Hb4.out, Hrow0.out⟩
  case round =>
    obtain ⟨k, oa, oc, rfl, rfl, hk, hb, hown⟩ := hrel
    have Hown := Lib.hid hown
    have Hb := Lib.hid hb
    clear hown hb
    have hal := armTo_length l m k
    by_cases hlt' : k < F - 1
    · have hks : k < 256 := by omega
      have q1 := cl_lt l k
      have q2 : ((k : Int) < ((F - 1 : Nat) : Int)) := by omega
      go_wp2_with fail
      refine (closer1_any l hlt k _ hks _ _ (Below.keep Hb.out Hbox.out) (Deps.keep Hv.out (Below.tr Hb2.out Hb.out))).mono ?_
      rintro e w5 ⟨rfl, hb5⟩
      have Hb5 := Lib.hid (Below.tr Hb.out hb5)
      have Hown5 := Lib.hid (Hown.out.keep hb5)
      clear hb5
      by_cases hc1 : cl l k = k
      · have hc2 : (((cl l k : Nat) : Int) == (k : Int)) = true := by rw [hc1]; simp
        have hstep : armTo l m (k + 1) = armTo l m k ++ [outRow k ((armTo l m k).length : Nat) m] := by rw [armTo, if_pos hc1]
        have Hstep := Lib.hid hstep
        clear hc1 hstep
        go_wp2_with fail
        refine (rowOutside_any m k _ hm8 hks _).mono ?_
        rintro e w6 ⟨rfl, ho6, hb6⟩
        obtain ⟨vs, h1, h2, h3⟩ := Hown5.out.keep hb6
        have Hu := Lib.hid (rowOwn ho6 Hb5.out.size rfl)
        have H1 := Lib.hid h1
        have H2 := Lib.hid h2
        have H3 := Lib.hid h3
        have Hb6 := Lib.hid (Below.tr Hb5.out hb6)
        clear h1 h2 h3 ho6 hb6
        go_wp2_with (at_builtin; refine append_own rfl (.tmp 28) (.tmp 34) 34 rfl elem34 rfl (World.ownsRow.alloc H2.out _) [.slice (some ⟨w5.heap.size, 0, none⟩) m m] rfl rfl (by intro j z hj; go_simp) (by intro z hz; simp at hz; subst hz; rfl) (by omega) (by simp; have := Hb6.out.size; omega) ?_)
        intro v' w7 h1 h2 h3
        have R2 := OwnRows.step H1.out (World.ownsRow.alloc H2.out _) (fun i h h' => World.ownsRow.alloc (H3.out i h h') _) (World.ownsRow.alloc Hu.out _) rfl h1 h3
        rw [← Hstep.out] at R2
        have HB := Lib.hid (show Below w2.heap.size w2 w7 from (Below.tr Hb6.out (below_alloc _ _)).trans h2)
        obtain ⟨na, nc, rfl⟩ := ownRow_slice h1
        have hl1 : (armTo l m k).length + 1 = (armTo l m (k + 1)).length := by rw [Hstep.out]; simp
        rw [hl1] at R2
        rw [hl1]
        have HR := Lib.hid R2
        clear R2 h1 h2 h3 hl1
        go_wp2_with fail
        go_roundw
        case rel => exact ⟨k + 1, _, _, rfl, by go_num, by omega, HB.out, HR.out⟩
        case measure => simp [intOf]; omega
      · have hc2 : (((cl l k : Nat) : Int) == (k : Int)) = false := by simp; omega
        have hstep : armTo l m (k + 1) = armTo l m k := by rw [armTo, if_neg hc1]
        have R2 := Hown5.out
        rw [← hstep] at R2 ⊢
        have HR := Lib.hid R2
        clear R2 hc1 hstep hal
        go_wp2_with fail
        go_roundw
        case rel => exact ⟨k + 1, _, _, rfl, by go_num, by omega, Hb5.out, HR.out⟩
        case measure => simp [intOf]; omega
    · obtain rfl : k = F - 1 := by omega
      go_wp2_with fail
      go_ret2
      exact ⟨_, rfl, Hown.out.rows, Below.tr Hb2.out Hb.out⟩
end Go.Proofs.Ytnidalbfmicoiaa

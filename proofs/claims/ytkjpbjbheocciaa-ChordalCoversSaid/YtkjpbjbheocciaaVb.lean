/- Contracts of slices.Sort on ints of the call's own, and of Cover. -/
import Derived.Test.YtkjpbjbheocciaaVa
import Derived.Test.YtkjpbjbheocciaaCi
import Derived.Test.YtkjpbjbheocciaaShelf
import Derived.Sort.OwnSortedInts
namespace Go.Proofs.Ytkjpbjbheocciaa
open Go.RowKit

def srt (l : List Int) : List Int := l.mergeSort fun x y => decide (x ≤ y)
theorem srt_length (l : List Int) : (srt l).length = l.length := by simp [srt]
def SortPost (B : Nat) (l : List Int) (v : Value) (w : World) (e : Ending) (w' : World) : Prop := e = .returned (.tuple #[]) ∧ OwnInts B w' v (srt l) ∧ w.grownBy w' v.ownBlock
theorem sort_any (B : Nat) (l : List Int) (v : Value) (w : World) (hl : 0 < l.length) (hm : l.length ≤ 100000) (hv : OwnInts B w v l) :
    Calls Try.prog 86 #[v] w (SortPost B l v w) := by
  rcases hv.2 with ⟨_, h0⟩ | ⟨g, cap, cur, rfl, hbg, hg, hnc, hcm, hcs, htake⟩
  · omega
  · rw [Nat.mul_one] at htake
    refine (Try.slices_Sort_int g 0 cap l w (holds_of_blockI hg htake) (Array.getElem?_eq_some_iff.1 hg).1 (by omega)).mono ?_
    rintro e w' ⟨he, n, os, rfl⟩
    refine ⟨he, ?_, grownBy_sortedI _⟩
    have := ownsRow_sortedI (w := w) (n := n) (os := os) (ss := l) (ts := srt l) (by simp [srt]) hbg hg hnc hcm hcs
    unfold OwnInts
    rw [srt_length]
    exact this
theorem coverE_bad {l : List Int} (h : ¬ GrI l) (v : Value) (w : World) (hv : Ints w v l) :
    Calls Try.prog 38 #[v] w fun e w' => e = .returned (.tuple #[.slice none 0 0, .int .i64 2]) ∧ w = w' := by
  have H := Lib.hid (valid_b (decide_eq_false h) v w hv)
  clear h hv
  go_enter Try.func38, Try.ntmps38
  go_wp2_with fail
  refine H.out.mono ?_
  rintro e w1 ⟨rfl, rfl⟩
  go_wp2_with fail
  go_ret2
  exact ⟨rfl, rfl⟩
theorem coverE_no {g : List Nat} (hg : Gr g) (hc : ¬ Chordal g) (v : Value) (w : World) (hv : Ints w v (castN g)) :
    Calls Try.prog 38 #[v] w fun e w' => e = .returned (.tuple #[.slice none 0 0, .int .i64 7]) ∧ Below w.heap.size w w' := by
  have H := Lib.hid (valid_b (decide_eq_true (grI_of hg)) v w hv)
  have H2 := Lib.hid (order_any hg v w hv)
  have Hd := Lib.hid (show decide (Chordal g) = false from decide_eq_false hc)
  clear hv hc hg
  go_enter Try.func38, Try.ntmps38
  go_wp2_with fail
  refine H.out.mono ?_
  rintro e w1 ⟨rfl, rfl⟩
  go_wp2_with fail
  refine H2.out.mono ?_
  rintro e w2 ⟨v2, rfl, hi2, hb2⟩
  rw [Hd.out]
  have Hb2 := Lib.hid hb2
  clear hi2 hb2
  go_wp2_with fail
  go_ret2
  exact ⟨rfl, Hb2.out⟩
def CoverPost (g : List Nat) (w : World) (e : Ending) (w' : World) : Prop := ∃ v', e = .returned (.tuple #[v', .int .i64 0]) ∧ OwnInts w.heap.size w' v' (srt (castN (cov g))) ∧ Below w.heap.size w w'
theorem gre_len (g o : List Nat) : ∀ k, (gre g o k).1.length ≤ k
  | 0 => Nat.le_refl _
  | k + 1 => by
    have := gre_len g o k
    cases h : (gre g o k).2.testBit (at' o k) with
    | true => rw [gre_yes h]; simp; omega
    | false => rw [gre_no h]; omega
theorem order_mem {g : List Nat} {k : Nat} (h : k < (order g).length) : at' (order g) k < g.length := elim_mem g g.length _ (mem_at.2 ⟨k, h, rfl⟩)
set_option maxRecDepth 100000 in
set_option maxHeartbeats 4000000 in
theorem coverE_any {g : List Nat} (hg : Gr g) (hc : Chordal g) (v : Value) (w : World) (hv : Ints w v (castN g)) :
    Calls Try.prog 38 #[v] w (CoverPost g w) := by
  have H := Lib.hid (valid_b (decide_eq_true (grI_of hg)) v w hv)
  have H2 := Lib.hid (order_any hg v w hv)
  have Hd := Lib.hid (show decide (Chordal g) = true from decide_eq_true hc)
  have Hif := Lib.hid (show (if Chordal g then castN (order g) else []) = castN (order g) from if_pos hc)
  obtain ⟨a, b, off, cap, rfl, hle, ha, hcg⟩ := Ints.graph hv
  have hix := run_ix (P := Try.prog) (t := 27) (a := a) (len := g.length) (cap := cap) (b := b) (off := off) (s := 1) Try.underlying27 (by intro w; kernel_rfl) ha
  simp only [Nat.mul_one] at hix
  have hg12 := hg.le
  have hpos := hg.pos
  have HG := Lib.hid hg
  have HC := Lib.hid hc
  have Hcg := Lib.hid hcg
  have Hix := Lib.hid hix
  obtain ⟨O, hO⟩ : ∃ O, O = order g := ⟨_, rfl⟩
  have HO := Lib.hid hO
  have hOl : O.length = g.length := by rw [hO]; exact chordal_len hc
  have HOl := Lib.hid hOl
  have Hmem := Lib.hid (show ∀ k, k < g.length → at' O k < g.length from fun k hk => by rw [hO]; exact order_mem (by rw [← hO, hOl]; exact hk))
  have Hif := Lib.hid (show (if Chordal g then castN (order g) else []) = castN O by rw [hO]; exact Hif.out)
  clear hv hc hg ha hle hcg hix hO hOl
  go_enter Try.func38, Try.ntmps38
  go_wp2_with fail
  refine H.out.mono ?_
  rintro e w1 ⟨rfl, rfl⟩
  go_wp2_with fail
  refine H2.out.mono ?_
  rintro e w2 ⟨v2, rfl, hi2, hb2⟩
  rw [Hd.out]
  rw [Hif.out] at hi2
  obtain ⟨a', b', off', cap', rfl, hle', ha', hc'⟩ := Ints.way hi2
  rw [HOl.out] at hle' ha' hc' ⊢
  have hix' := run_ix (P := Try.prog) (t := 22) (a := a') (len := g.length) (cap := cap') (b := b') (off := off') (s := 1) Try.underlying22 (by intro w; kernel_rfl) ha'
  simp only [Nat.mul_one] at hix'
  have Hc' := Lib.hid hc'
  have Hix' := Lib.hid hix'
  have Hb2 := Lib.hid hb2
  clear hi2 hb2 ha' hc' hix' hle' H2 H
  go_wp2_with fail
  refine (all_any _ _ _ (by omega) _).mono ?_
  rintro e w' ⟨rfl, rfl⟩
  go_wp2_with fail
  go_loopw [6, 7, 25] (fun s u i wr => ∃ (k L : Nat), i = .int .i64 k ∧ u = .int .i64 L ∧ k ≤ g.length ∧ L = (gre g O k).2 ∧ Below w2.heap.size w2 wr ∧ OwnInts w2.heap.size wr s (castN (gre g O k).1)) (fun _ _ i _ => g.length - (intOf i).toNat)
  case atStart => exact ⟨0, _, rfl, rfl, Nat.zero_le _, rfl, Below.refl _ _, ownInts_nil _ _⟩
  case round =>
    obtain ⟨k, L, rfl, rfl, hk, hL, hb3, ho3⟩ := hrel
    have Hb3 := Lib.hid hb3
    have Ho3 := Lib.hid ho3
    have hL4 : L < 4096 := by rw [hL]; exact lt63 (gre_lt g O k) hg12
    have HL := Lib.hid hL
    clear hb3 ho3 hL
    by_cases hlt : k < g.length
    · have hck := Below.keep Hb3.out (Hc'.out k hlt)
      have hixk := Hix'.out k
      have hx := Hmem.out k hlt
      obtain ⟨x, hxe⟩ : ∃ x, x = at' O k := ⟨_, rfl⟩
      rw [← hxe] at hck hx
      have Hx := Lib.hid hxe
      clear hxe
      cases hbit : L.testBit x with
      | false =>
        have Hh := Lib.hid (has_b L x false hbit (by omega) (by omega))
        have R := Lib.hid (show gre g O (k + 1) = gre g O k from gre_no (by rw [← HL.out, ← Hx.out]; exact hbit))
        clear hbit
        go_wp2_with fail
        refine (Hh.out _).mono ?_
        rintro e w' ⟨rfl, rfl⟩
        go_wp2_with fail
        go_roundw
        case rel => exact ⟨k + 1, L, by go_num, rfl, by omega, by rw [R.out]; exact HL.out, Hb3.out, by rw [R.out]; exact Ho3.out⟩
        case measure => simp [intOf]; omega
      | true =>
        have Hh := Lib.hid (has_b L x true hbit (by omega) (by omega))
        have R := Lib.hid (show gre g O (k + 1) = ((gre g O k).1 ++ [nb g x &&& L ||| 2 ^ x], ndiff L (nb g x &&& L ||| 2 ^ x)) by rw [HL.out, Hx.out]; exact gre_yes (by rw [← HL.out, ← Hx.out]; exact hbit))
        have hcx := Below.keep (Below.tr Hb2.out Hb3.out) (Hcg.out x hx)
        have hixx := Hix.out x
        have hz4 := lt63 (HG.out.lt x hx) hg12
        obtain ⟨z, hz⟩ : ∃ z, z = nb g x := ⟨_, rfl⟩
        rw [← hz] at hcx hz4 R
        obtain ⟨P, hP, p1, p2, p3⟩ := pow_name x (by omega)
        have hand := bits_and_nat z L (by omega) (by omega)
        have hzl : z &&& L < 4096 := Nat.lt_of_le_of_lt Nat.and_le_left hz4
        have hP12 : P < 4096 := by rw [hP]; exact Nat.pow_lt_pow_right (by decide) (show x < 12 by omega)
        have hor := bits_or_nat (z &&& L) P (by omega) (by omega)
        have hC : z &&& L ||| P < 4096 := Nat.or_lt_two_pow (n := 12) hzl hP12
        have hnd := bits_andNot_nat L (z &&& L ||| P) (by omega) (by omega)
        rw [← hP] at R
        have hx1 : (0 : Int) ≤ (x : Int) := by omega
        have hx2 : (x : Int) < 64 := by omega
        have R4 := Lib.hid (show ndiff L (z &&& L ||| P) < 4096 from by have := ndiff_le L (z &&& L ||| P); omega)
        obtain ⟨C, hCe⟩ : ∃ C, C = z &&& L ||| P := ⟨_, rfl⟩
        rw [← hCe] at hor hC hnd R R4
        have Hlen := Lib.hid (gre_len g O k)
        clear hbit hz hP hCe
        go_wp2_with fail
        refine (Hh.out _).mono ?_
        rintro e w' ⟨rfl, rfl⟩
        go_wp2_with fail
        go_quiet (fail)
        have Hb4 := Lib.hid (bdrewN Hb3.out nq)
        have Ho4 := Lib.hid (Ho3.out.keep (bdrewN (Below.refl _ _) nq))
        have hlen := Hlen.out
        go_wp2_with (at_builtin; refine append_own rfl (.tmp 41) (.tmp 43) 22 rfl elemInts rfl (World.ownsRow.alloc Ho4.out _) [.int .i64 C] rfl rfl ?c1 ?c2 ?c3 ?c4 ?_)
        case c1 => intro j u hj; refine (cell_new (wr.drewN nq) _ _ _).trans ?_; simpa using hj
        case c2 => intro u hu; simp at hu; subst hu; rfl
        case c3 => rw [castN_length]; omega
        case c4 => simp; have := Hb3.out.size; omega
        intro v' w4 h1' h2' _
        have Hb5 := Lib.hid (show Below w2.heap.size w2 w4 from (Below.tr Hb4.out (below_alloc _ _)).trans h2')
        have Ho5 := Lib.hid (show OwnInts w2.heap.size w4 v' (castN ((gre g O k).1 ++ [C])) by rw [castN_append]; exact OwnInts.snoc h1')
        clear h1' h2' hlen
        go_wp2_with fail
        go_roundw
        case rel => exact ⟨k + 1, ndiff L C, by go_num, rfl, by omega, by rw [R.out], Hb5.out, by rw [R.out]; exact Ho5.out⟩
        case measure => simp [intOf]; omega
    · obtain rfl : k = g.length := by omega
      have Ho := Lib.hid (show OwnInts w2.heap.size wr u6 (castN (cov g)) by have := Ho3.out; rw [HO.out] at this; exact this)
      have Hne := Lib.hid (show 0 < (castN (cov g)).length by
        rw [castN_length]
        obtain ⟨c, hc, _⟩ := ((cov_parts HG.out HC.out).2.2 0).1 (full_bit.2 hpos)
        exact List.length_pos_of_mem hc)
      have Hlen := Lib.hid (show (castN (cov g)).length ≤ 100000 by
        rw [castN_length]; have := gre_len g (order g) g.length; unfold cov; omega)
      go_wp2_with fail
      refine (sort_any _ _ _ _ Hne.out Hlen.out Ho.out).mono ?_
      rintro e w5 ⟨rfl, ho5, hg5⟩
      obtain ⟨sa, sn, sc, rfl⟩ := own_slice ho5
      have Ho5 := Lib.hid (OwnInts.base ho5 Hb2.out.size)
      have Hb5 := Lib.hid (show Below w.heap.size w w5 from (Below.tr Hb2.out Hb3.out).trans ⟨hg5.os, hg5.tape, hg5.output, hg5.size, fun k hk => hg5.block k (Nat.lt_of_lt_of_le hk (Nat.le_trans Hb2.out.size Hb3.out.size)) (fun e => by
        have := (World.ownsRow.lt Ho.out k e.symm).1
        have := Hb2.out.size
        omega)⟩)
      clear ho5 hg5
      go_wp2_with fail
      go_ret2
      exact ⟨_, rfl, Ho5.out, Hb5.out⟩
#print axioms coverE_any
end Go.Proofs.Ytkjpbjbheocciaa

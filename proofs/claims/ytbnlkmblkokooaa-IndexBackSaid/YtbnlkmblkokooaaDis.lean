/- Contracts of slices.Sort on ints of the call's own, and of Distinct. -/
import Derived.Test.YtbnlkmblkokooaaRcom
import Derived.Test.YtbnlkmblkokooaaShelfI
import Derived.Test.YtbnlkmblkokooaaAdj
namespace Go.Proofs.Ytbnlkmblkokooaa
open Go.RowKit

def srt (l : List Int) : List Int := l.mergeSort fun x y => decide (x ≤ y)
theorem srt_length (l : List Int) : (srt l).length = l.length := by simp [srt]
def SortPost (B : Nat) (l : List Int) (v : Value) (w : World) (e : Ending) (w' : World) : Prop := e = .returned (.tuple #[]) ∧ OwnInts B w' v (srt l) ∧ Below B w w'
theorem sort_any (B : Nat) (l : List Int) (v : Value) (w : World) (hl : 0 < l.length) (hm : l.length ≤ 100000) (hB : B ≤ w.heap.size) (hv : OwnInts B w v l) :
    Calls Try.prog 51 #[v] w (SortPost B l v w) := by
  have hv0 := hv
  rcases hv.2 with ⟨_, h0⟩ | ⟨g, cap, cur, rfl, hbg, hg, hnc, hcm, hcs, htake⟩
  · omega
  · rw [Nat.mul_one] at htake
    refine (Try.slices_Sort_int g 0 cap l w (holds_of_blockI hg htake) (Array.getElem?_eq_some_iff.1 hg).1 (by omega)).mono ?_
    rintro e w' ⟨he, n, os, rfl⟩
    refine ⟨he, ?_, grown_below hv0 (grownBy_sortedI _) hB⟩
    have := ownsRow_sortedI (w := w) (n := n) (os := os) (ss := l) (ts := srt l) (by simp [srt]) hbg hg hnc hcm hcs
    unfold OwnInts
    rw [srt_length]
    exact this
theorem srt_sa (l : Bs) : srt (castN (sa l)) = castN (List.range (l.length + 1)) := by
  have hp : (srt (castN (sa l))).Perm (castN (List.range (l.length + 1))) := (List.mergeSort_perm _ _).trans ((sa_is l).1.map _)
  have hs : (srt (castN (sa l))).Pairwise (fun x y => x ≤ y) := by
    have := List.pairwise_mergeSort (le := fun x y : Int => decide (x ≤ y)) (fun a b c h1 h2 => by simp at *; omega) (fun a b => by simp; omega) (castN (sa l))
    exact this.imp (fun h => by simpa using h)
  have hr : (castN (List.range (l.length + 1))).Pairwise (fun x y : Int => x ≤ y) := by
    unfold castN
    rw [List.pairwise_map]
    exact (List.pairwise_lt_range).imp (fun h => by omega)
  exact List.Perm.eq_of_pairwise (le := fun x y : Int => x ≤ y) (fun a b _ _ h1 h2 => by omega) hs hr hp
/-- half of n times n + 1 -/
def tri (n : Nat) : Nat := n * (n + 1) / 2
theorem tri_facts {n : Nat} (h : n ≤ 1000) : ∃ P D : Nat, P = n * (n + 1) ∧ D = tri n ∧ (n : Int) * ((n : Int) + 1) = (P : Int) ∧ P ≤ 1001000 ∧ D ≤ 1001000 ∧ (P : Int) / 2 = (D : Int) := by
  refine ⟨n * (n + 1), tri n, rfl, rfl, by simp, ?_, ?_, by simp [tri]⟩
  · exact Nat.mul_le_mul h (by omega : n + 1 ≤ 1001)
  · unfold tri
    have := Nat.mul_le_mul h (by omega : n + 1 ≤ 1001)
    omega
theorem sumTo_le {f : Nat → Nat} {b : Nat} : ∀ {n : Nat}, (∀ i, i < n → f i ≤ b) → sumTo f n ≤ n * b
  | 0, _ => by simp [sumTo]
  | n + 1, h => by
    have := sumTo_le (f := f) (b := b) (n := n) fun i hi => h i (by omega)
    have := h n (by omega)
    unfold sumTo
    rw [Nat.succ_mul]
    omega
theorem sumTo_mono (f : Nat → Nat) {j n : Nat} (h : j ≤ n) : sumTo f j ≤ sumTo f n := by
  induction n with
  | zero => obtain rfl : j = 0 := by omega
            exact Nat.le_refl _
  | succ n ih =>
    by_cases e : j = n + 1
    · subst e; exact Nat.le_refl _
    · have := ih (by omega)
      show sumTo f j ≤ sumTo f n + f n
      omega
theorem com_bound (l : Bs) (h : l.length ≤ 1000) : sumTo (comAt l) l.length ≤ 1000000 := by
  have h1 := sumTo_le (f := comAt l) (b := 1000) (n := l.length) fun i _ => by have := comAt_le l i; omega
  have := Nat.mul_le_mul_right 1000 h
  omega
theorem com_at {l : Bs} {i : Nat} (h : i < l.length) : at' (com l) i = comAt l i := by simp [at', com, List.getD, h]
theorem distinctE_bad {s : ByteArray} (hs : s.size ≤ 1000) (h : ¬ Lab (bs s)) (w : World) :
    Calls Try.prog 42 #[.string s] w fun e w' => e = .returned (.tuple #[.int .i64 0, .int .i64 2]) ∧ w = w' := by
  have H := Lib.hid (isLabel_b s hs false (decide_eq_false h) w)
  clear h
  go_enter Try.func42, Try.ntmps42
  go_wp2_with fail
  refine H.out.mono ?_
  rintro e w1 ⟨rfl, rfl⟩
  go_wp2_with fail
  go_ret2
  exact ⟨rfl, rfl⟩
/-- what Distinct returns -/
def disI (l : Bs) : Int := (tri l.length : Int) - (sumTo (comAt l) l.length : Nat)
set_option maxRecDepth 100000 in
set_option maxHeartbeats 4000000 in
theorem distinctE_any {s : ByteArray} (h : Lab (bs s)) (w : World) :
    Calls Try.prog 42 #[.string s] w fun e w' => e = .returned (.tuple #[.int .i64 (disI (bs s)), .int .i64 0]) ∧ Below w.heap.size w w' := by
  have hs : s.size ≤ 1000 := by have := lab_size h; omega
  have H := Lib.hid (isLabel_b s hs true (decide_eq_true h) w)
  have H2 := Lib.hid (common_any s hs w)
  obtain ⟨n, hn⟩ : ∃ n, n = s.size := ⟨_, rfl⟩
  have hn1 : n ≤ 1000 := by omega
  obtain ⟨P, D, hP, hD, e1, hP2, hD2, e2⟩ := tri_facts hn1
  obtain ⟨L, hL⟩ : ∃ L, L = bs s := ⟨_, rfl⟩
  have HLn := Lib.hid (show L.length = n by rw [hL, bs_len, hn])
  have HL := Lib.hid hL
  have HD := Lib.hid hD
  have HN := Lib.hid hn
  have hsb := com_bound L (by rw [HLn.out]; exact hn1)
  have Hmono := Lib.hid (fun j (hj : j ≤ L.length) => sumTo_mono (comAt L) hj)
  have Hsb := Lib.hid hsb
  have q1 : IntKind.i64.wrap ((s.size : Int) + 1) = (n : Int) + 1 := by rw [IntWalk.i64_in _ ⟨by omega, by omega⟩]; omega
  have q2 : (s.size : Int) = (n : Int) := by omega
  have q3 : IntKind.i64.wrap (P : Int) = (P : Int) := IntWalk.i64_in _ ⟨by omega, by omega⟩
  have q4 : (P : Int).tdiv 2 = (D : Int) := by rw [Int.tdiv_eq_ediv_of_nonneg (by omega)]; exact e2
  rw [← hL]
  clear h hL hD hn hsb hP
  go_enter Try.func42, Try.ntmps42
  go_wp2_with fail
  refine H.out.mono ?_
  rintro e w1 ⟨rfl, rfl⟩
  go_wp2_with fail
  refine H2.out.mono ?_
  rintro e w1 ⟨v1, rfl, ho1, hb1⟩
  rw [← HL.out] at ho1
  obtain ⟨a1, b1, off1, cap1, rfl, hle1, ha1, hc1⟩ := Ints.nats (OwnInts.ints ho1)
  have hsl : (com L).length = n := by rw [com_length, HLn.out]
  rw [hsl] at ha1 hc1 hle1 ⊢
  have hix1 := run_ix (P := Try.prog) (t := 23) (a := a1) (len := n) (cap := cap1) (b := b1) (off := off1) (s := 1) Try.underlying23 (by intro w; kernel_rfl) ha1
  simp only [Nat.mul_one] at hix1
  have Hix1 := Lib.hid hix1
  have Hc1 := Lib.hid (show ∀ i, i < n → w1.cell? ⟨b1, off1 + i, none⟩ = some (.int .i64 (comAt L i : Nat)) from fun i hi => by rw [hc1 i hi, com_at (by rw [HLn.out]; exact hi)])
  have Hb1 := Lib.hid hb1
  clear ho1 ha1 hc1 hsl hix1 hb1 q1 q2 q3 q4 e1 e2
  go_wp2_with fail
  go_loopw [4, 20] (fun d i wr => ∃ j : Nat, i = .int .i64 j ∧ j ≤ n ∧ wr = w1 ∧ d = .int .i64 ((D : Int) - (sumTo (comAt L) j : Nat))) (fun _ i _ => n - (intOf i).toNat)
  case atStart => exact ⟨0, rfl, Nat.zero_le _, rfl, by simp [sumTo]⟩
  case round =>
    obtain ⟨j, rfl, hj, hwr, rfl⟩ := hrel
    subst hwr
    have hm1 := Hmono.out j (by rw [HLn.out]; exact hj)
    have hsb := Hsb.out
    by_cases hlt : j < n
    · have hixj := Hix1.out j
      have hcj := Hc1.out j hlt
      have hm2 := Hmono.out (j + 1) (by rw [HLn.out]; exact hlt)
      have hS : sumTo (comAt L) (j + 1) = sumTo (comAt L) j + comAt L j := rfl
      have HS := Lib.hid hS
      rw [hS] at hm2
      generalize sumTo (comAt L) j = S at *
      generalize comAt L j = x at *
      generalize sumTo (comAt L) L.length = T at *
      have q5 : IntKind.i64.wrap ((D : Int) - (S : Int) - (x : Int)) = (D : Int) - (S : Int) - (x : Int) := IntWalk.i64_in _ ⟨by omega, by omega⟩
      clear hS
      go_wp2_with fail
      go_roundw
      case rel => exact ⟨j + 1, by go_num, by omega, trivial, by rw [HS.out]; push_cast; rw [Int.sub_sub]⟩
      case measure => simp [intOf]; omega
    · obtain rfl : j = n := by omega
      have hE := Lib.hid (show disI L = (D : Int) - (sumTo (comAt L) j : Nat) by unfold disI; rw [HLn.out, HD.out])
      clear hm1 hsb
      go_wp2_with fail
      go_ret2
      exact ⟨by rw [hE.out]; rfl, Hb1.out⟩
#print axioms distinctE_any
end Go.Proofs.Ytbnlkmblkokooaa

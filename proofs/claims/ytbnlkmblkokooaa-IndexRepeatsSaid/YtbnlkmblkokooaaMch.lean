/- Contracts of strings.Contains, Match, the reference's Match. -/
import Derived.Test.YtbnlkmblkokooaaRcom
import Derived.Test.YtbnlkmblkokooaaShelfC
import Derived.Test.YtbnlkmblkokooaaMat
namespace Go.Proofs.Ytbnlkmblkokooaa
open Go.RowKit

/-- the library's variable is an int -/
def Glob (w : World) : Prop := ∃ m, w.cell? ⟨0, 0, none⟩ = some (.int .i64 m)
theorem Glob.keep {w w' : World} (h : Glob w) (hb : Below w.heap.size w w') : Glob w' := by
  obtain ⟨m, hm⟩ := h
  exact ⟨m, Below.keep hb hm⟩
theorem glob_of {w : World} (h : w.ShapedOpen Try.prog) : Glob w := Try.laysM144.s1_3 w h
theorem contains_any (s t : ByteArray) (hs : s.size ≤ 1000) (b : Bool) (hb : Lib.contains (bs s) (bs t) = b) (w : World) (hg : Glob w) :
    Calls Try.prog 70 #[.string s, .string t] w fun e w' => e = .returned (.bool b) ∧ w = w' := by
  subst hb
  obtain ⟨m, hm⟩ := hg
  exact (Try.strings_Contains s t m w (by omega) hm).mono fun _ _ ⟨h1, h2⟩ => ⟨h1, h2.symm⟩
theorem matchE_bad {s p : ByteArray} (hs : s.size ≤ 1000) (hp : p.size ≤ 1000) (h : ¬ (Lab (bs s) ∧ Lab (bs p))) (w : World) :
    Calls Try.prog 47 #[.string s, .string p] w fun e w' => e = .returned (.tuple #[.slice none 0 0, .int .i64 2]) ∧ w = w' := by
  by_cases h1 : Lab (bs s)
  · have H := Lib.hid (isLabel_b s hs true (decide_eq_true h1))
    have H2 := Lib.hid (isLabel_b p hp false (decide_eq_false fun h2 => h ⟨h1, h2⟩))
    clear h h1
    go_enter Try.func47, Try.ntmps47
    go_wp2_with fail
    refine (H.out _).mono ?_
    rintro e w1 ⟨rfl, rfl⟩
    go_wp2_with fail
    refine (H2.out _).mono ?_
    rintro e w1 ⟨rfl, rfl⟩
    go_wp2_with fail
    go_ret2
    exact ⟨rfl, rfl⟩
  · have H := Lib.hid (isLabel_b s hs false (decide_eq_false h1))
    clear h h1
    go_enter Try.func47, Try.ntmps47
    go_wp2_with fail
    refine (H.out _).mono ?_
    rintro e w1 ⟨rfl, rfl⟩
    go_wp2_with fail
    go_ret2
    exact ⟨rfl, rfl⟩
/-- what Match returns -/
def mats (t p : Bs) : List Int := (List.range p.length).map fun i => (mat t (p.drop i) : Int)
def MatPost (s p : ByteArray) (w : World) (e : Ending) (w' : World) : Prop := ∃ v', e = .returned (.tuple #[v', .int .i64 0]) ∧ OwnInts w.heap.size w' v' (mats (bs s) (bs p)) ∧ Below w.heap.size w w'
set_option maxRecDepth 100000 in
set_option maxHeartbeats 4000000 in
theorem matchE_any {s p : ByteArray} (h1 : Lab (bs s)) (h2 : Lab (bs p)) (w : World) (hg : Glob w) :
    Calls Try.prog 47 #[.string s, .string p] w (MatPost s p w) := by
  have hs := lab_size h1
  have hp := lab_size h2
  have H := Lib.hid (isLabel_b s (by omega) true (decide_eq_true h1))
  have H2 := Lib.hid (isLabel_b p (by omega) true (decide_eq_true h2))
  obtain ⟨i0, hi, hz0, hz1, hz2⟩ := infoInt'
  obtain ⟨n, hn⟩ : ∃ n, n = p.size := ⟨_, rfl⟩
  have HN := Lib.hid hn
  have hn1 : n ≤ 200 := by omega
  have Hi := Lib.hid hi
  have Hz0 := Lib.hid hz0
  have Hz1 := Lib.hid hz1
  have Hby := Lib.hid (show i0.bytes * n ≤ 281474976710656 by rw [hz2]; omega)
  have HG := Lib.hid hg
  have Hle := Lib.hid (show ∀ j, mat (bs s) ((bs p).drop j) ≤ n - j from fun j => by have := mat_le (bs s) ((bs p).drop j); rw [List.length_drop, bs_len] at this; omega)
  have Hcon := Lib.hid (show ∀ j M, j + M < n → ∀ W, Glob W → Calls Try.prog 70 #[.string s, .string (p.extract j (j + M + 1))] W fun e w' => e = .returned (.bool (decide (M < mat (bs s) ((bs p).drop j)))) ∧ W = w' from fun j M hM W hW => contains_any s _ (by omega) _ (by
    rw [bs_part, show j + M + 1 - j = M + 1 by omega, contains_at (by rw [bs_len]; omega)]; rfl) W hW)
  have Hstep := Lib.hid (mat_step (bs s) (bs p))
  have Hm := Lib.hid (show mats (bs s) (bs p) = (List.range n).map fun i => (mat (bs s) ((bs p).drop i) : Int) by unfold mats; rw [bs_len, hn])
  obtain ⟨f, hf⟩ : ∃ f : Nat → Nat, f = fun j => mat (bs s) ((bs p).drop j) := ⟨_, rfl⟩
  have Hf := Lib.hid hf
  clear h1 h2 hi hz0 hz1 hz2 hn hg hf
  go_enter Try.func47, Try.ntmps47
  go_wp2_with fail
  refine (H.out _).mono ?_
  rintro e w1 ⟨rfl, rfl⟩
  go_wp2_with fail
  refine (H2.out _).mono ?_
  rintro e w1 ⟨rfl, rfl⟩
  have hszn : (p.size : Int) = (n : Int) := by rw [HN.out]
  go_wp2_with (refine wpList_make_full _ rfl (.tmp 18) (.tmp 18) 23 rfl w.heap.size 3 i0 (.int .i64 0) 1 Try.underlying23 Hi.out Hz0.out Hz1.out .i64 .i64 _ _ n rfl rfl rfl rfl Hby.out (by unfold maxLen; omega) (Nat.le_refl _) ?_; intro w3 hown hgr)
  have Hrow := Lib.hid (makeInts_fRow (fun i => (f i : Int)) hown)
  have Hb3 := Lib.hid (show Below w.heap.size w w3 from ⟨hgr.os, hgr.tape, hgr.output, hgr.size, fun k hk => hgr.block k hk (by simp)⟩)
  have hix' := run_ix (P := Try.prog) (t := 23) (a := some ⟨w.heap.size, 0, none⟩) (len := n) (cap := n) (b := w.heap.size) (off := 0) (s := 1) Try.underlying23 (by intro w; kernel_rfl) (fun _ => rfl)
  simp only [Nat.mul_one, Nat.zero_add] at hix'
  have Hix' := Lib.hid hix'
  have Hszn := Lib.hid hszn
  clear hown hgr hix' hszn
  go_wp2_with fail
  go_loopw [7, 22] (fun m i wr => ∃ j N : Nat, i = .int .i64 j ∧ m = .int .i64 N ∧ j ≤ n ∧ N ≤ n ∧ (j < n → N - 1 ≤ f j) ∧ Below w.heap.size w wr ∧ FRow (fun i => (f i : Int)) wr w.heap.size w.heap.size n j) (fun _ i _ => n - (intOf i).toNat)
  case atStart => exact ⟨0, 0, rfl, rfl, Nat.zero_le _, Nat.zero_le _, fun _ => Nat.zero_le _, Hb3.out, Hrow.out⟩
  case round =>
    obtain ⟨j, N, rfl, rfl, hj, hN, hNf, hb', hown'⟩ := hrel
    have Hb' := Lib.hid hb'
    have Hown' := Lib.hid hown'
    clear hb' hown'
    by_cases hltj : j < n
    · have hNf' := hNf hltj
      have HGr := Lib.hid (Glob.keep HG.out Hb'.out)
      obtain ⟨M, hM, hMmax⟩ : ∃ M : Nat, M = N - 1 ∧ max ((N : Int) - 1) 0 = (M : Int) := ⟨N - 1, rfl, by omega⟩
      have hMf : M ≤ f j := by omega
      have hMn : M ≤ n := by omega
      clear hM hNf hNf'
      have HF1 := Lib.hid (show f j ≤ n - j by rw [Hf.out]; exact Hle.out j)
      have HC := Lib.hid (fun M (hM : j + M < n) => Hcon.out j M hM _ HGr.out)
      have HFj := Lib.hid (show mat (bs s) ((bs p).drop j) = f j by rw [Hf.out])
      have HFs := Lib.hid (show f j - 1 ≤ f (j + 1) by rw [Hf.out]; exact Hstep.out j)
      have hsz := Hszn.out
      rw [HFj.out] at HC
      go_wp2_with fail
      clear hMmax
      obtain ⟨wo, rfl⟩ : ∃ wo : World, wo = wr := ⟨_, rfl⟩
      go_loopw [7] (fun m wr => ∃ K : Nat, m = .int .i64 K ∧ K ≤ f j ∧ wr = wo) (fun m _ => f j - (intOf m).toNat)
      case atStart => exact ⟨M, rfl, hMf, rfl⟩
      case round =>
        obtain ⟨K, rfl, hK, hwr⟩ := hrel
        subst hwr
        have hfj := HF1.out
        by_cases hlt : K < f j
        · have hjK : j + K < n := by omega
          have HC1 := Lib.hid (HC.out K hjK)
          rw [decide_eq_true hlt] at HC1
          have hsi : ((j : Int) + (K : Int) + 1).toNat = j + K + 1 := by omega
          go_wp2_with fail
          refine HC1.out.mono ?_
          rintro e w' ⟨rfl, rfl⟩
          go_wp2_with fail
          go_roundw
          case rel => exact ⟨K + 1, by go_num, by omega, trivial⟩
          case measure => simp [intOf]; omega
        · obtain rfl : K = f j := by omega
          have hixj := Hix'.out j
          have hfz := World.ownsRow.frozenAt Hown'.out j
          have hcell := World.ownsRow.cellAt Hown'.out j (by omega)
          rw [List.getElem?_map, List.getElem?_eq_getElem (by rw [fRow_length]; exact hltj), Option.map_some] at hcell
          have hst := (World.ownsRow.stored Hown'.out j (.int .i64 (f j : Nat)))
          have HR := Lib.hid (show FRow (fun i => (f i : Int)) (wr.setCell ⟨w.heap.size, j, none⟩ (.int .i64 (f j : Nat))) w.heap.size w.heap.size n (j + 1) by unfold FRow; rw [← fRow_set, List.map_set]; exact hst.1)
          clear hst
          by_cases hjK : j + f j < n
          · have HC1 := Lib.hid (HC.out (f j) hjK)
            rw [decide_eq_false (Nat.lt_irrefl _)] at HC1
            have hsi : ((j : Int) + (f j : Int) + 1).toNat = j + f j + 1 := by omega
            go_wp2_with fail
            refine HC1.out.mono ?_
            rintro e w' ⟨rfl, rfl⟩
            go_wp2_with fail
            go_roundw
            case rel => exact ⟨j + 1, f j, by go_num, rfl, by omega, by omega, fun _ => HFs.out, Hb'.out.setCell (Nat.le_refl _) _, HR.out⟩
            case measure => simp [intOf]; omega
          · have hd : decide ((j : Int) + (f j : Int) < (n : Int)) = false := decide_eq_false (by omega)
            go_wp2_with fail
            go_roundw
            case rel => exact ⟨j + 1, f j, by go_num, rfl, by omega, by omega, fun _ => HFs.out, Hb'.out.setCell (Nat.le_refl _) _, HR.out⟩
            case measure => simp [intOf]; omega
    · obtain rfl : j = n := by omega
      have HO := Lib.hid (show OwnInts w.heap.size wr (.slice (some ⟨w.heap.size, 0, none⟩) j j) (mats (bs s) (bs p)) by have := FRow.own Hown'.out; rw [Hm.out]; rw [Hf.out] at this; exact this)
      go_wp2_with fail
      go_ret2
      exact ⟨_, rfl, HO.out, Hb'.out⟩
set_option maxRecDepth 100000 in
set_option maxHeartbeats 4000000 in
theorem matchR_any (s p : ByteArray) (hs : s.size ≤ 1000) (hp : p.size ≤ 1000) (w : World) :
    Calls Try.prog 48 #[.string s, .string p] w fun e w' => ∃ v', e = .returned v' ∧ OwnInts w.heap.size w' v' (mats (bs s) (bs p)) ∧ Below w.heap.size w w' := by
  obtain ⟨n, hn⟩ : ∃ n, n = p.size := ⟨_, rfl⟩
  obtain ⟨m, hm⟩ : ∃ m, m = s.size := ⟨_, rfl⟩
  have HN := Lib.hid hn
  have HM := Lib.hid hm
  have hn1 : n ≤ 1000 := by omega
  have hm1 : m ≤ 1000 := by omega
  have hszn : (p.size : Int) = (n : Int) := by omega
  have hszm : (s.size : Int) = (m : Int) := by omega
  have HA := Lib.hid (show ∀ i j, i ≤ n → ∀ W, Calls Try.prog 56 #[.string (p.extract i p.size), .string (s.extract j s.size)] W fun e w' => e = .returned (.int .i64 (lcp ((bs p).drop i) ((bs s).drop j) : Nat)) ∧ ∃ q, w' = W.drewN q from fun i j hi W => by
    have h := agree_any (p.extract i p.size) (s.extract j s.size) (by rw [ByteArray.size_extract]; omega) W
    rw [bs_drop, bs_drop] at h
    exact h)
  have Hms := Lib.hid (show mats (bs s) (bs p) = (List.range n).map fun i => (maxTo (fun j => lcp ((bs p).drop i) ((bs s).drop j)) m : Int) by unfold mats mat; rw [bs_len, bs_len, hn, hm])
  have Hlb := Lib.hid (show ∀ i j, lcp ((bs p).drop i) ((bs s).drop j) ≤ 1000 from fun i j => by have := (lcp_le ((bs p).drop i) ((bs s).drop j)).1; rw [List.length_drop, bs_len] at this; omega)
  obtain ⟨g, hg⟩ : ∃ g : Nat → Nat → Nat, g = fun i j => lcp ((bs p).drop i) ((bs s).drop j) := ⟨_, rfl⟩
  have HG := Lib.hid hg
  have HA := Lib.hid (show ∀ i j, i ≤ n → ∀ W, Calls Try.prog 56 #[.string (p.extract i p.size), .string (s.extract j s.size)] W fun e w' => e = .returned (.int .i64 (g i j : Nat)) ∧ ∃ q, w' = W.drewN q by rw [hg]; exact HA.out)
  have Hms := Lib.hid (show mats (bs s) (bs p) = (List.range n).map fun i => (maxTo (g i) m : Int) by rw [hg]; exact Hms.out)
  have Hlb := Lib.hid (show ∀ i j, g i j ≤ 1000 by rw [hg]; exact Hlb.out)
  rw [Hms.out]
  clear hn hm hg HG Hms
  go_enter Try.func48, Try.ntmps48
  go_wp2_with fail
  go_loopw [5, 11] (fun o i wr => ∃ j : Nat, i = .int .i64 j ∧ j ≤ n ∧ Below w.heap.size w wr ∧ OwnInts w.heap.size wr o ((List.range j).map fun i => (maxTo (g i) m : Int))) (fun _ i _ => n - (intOf i).toNat)
  case atStart => exact ⟨0, rfl, Nat.zero_le _, Below.refl _ _, ownInts_nil _ _⟩
  case round =>
    obtain ⟨j, rfl, hj, hb', hown'⟩ := hrel
    have Hb' := Lib.hid hb'
    have Hown' := Lib.hid hown'
    clear hb' hown'
    by_cases hltj : j < n
    · have hjp : j ≤ p.size := by omega
      go_wp2_with fail
      obtain ⟨wo, rfl⟩ : ∃ wo : World, wo = wr := ⟨_, rfl⟩
      go_loopw [7, 16] (fun b i wr => ∃ k : Nat, i = .int .i64 k ∧ k ≤ m ∧ b = .int .i64 (maxTo (g j) k : Nat) ∧ ∃ d, wr = wo.drewN d) (fun _ i _ => m - (intOf i).toNat)
      case atStart => exact ⟨0, rfl, Nat.zero_le _, rfl, 0, rfl⟩
      case round =>
        obtain ⟨k, rfl, hk, rfl, d, rfl⟩ := hrel
        by_cases hltk : k < m
        · have hks : k ≤ s.size := by omega
          have HAk := Lib.hid (HA.out j k hj)
          have hmx : max (maxTo (g j) k : Int) (g j k : Int) = (maxTo (g j) (k + 1) : Nat) := by
            show _ = ((max (maxTo (g j) k) (g j k) : Nat) : Int)
            omega
          obtain ⟨w5, hw5⟩ : ∃ w5, wo.drewN d = w5 := ⟨_, rfl⟩
          rw [hw5]
          have HW5 := Lib.hid hw5
          clear hw5
          go_wp2_with fail
          go_quiet ((go_at_call 56; exact Calls.quiet_of (HAk.out _)))
          go_wp2_with fail
          go_roundw
          case rel => exact ⟨k + 1, by go_num, by omega, rfl, d + nq, by rw [← HW5.out]; exact World.drewN_drewN _ _ _⟩
          case measure => simp [intOf]; omega
        · obtain rfl : k = m := by omega
          have Hown5 := Lib.hid (owns_drewN Hown'.out d)
          have Hb5 := Lib.hid (bdrewN Hb'.out d)
          generalize wo.drewN d = w5 at *
          go_wp2_with (at_builtin; refine append_own rfl (.tmp 29) (.tmp 31) 23 rfl elemInts rfl (World.ownsRow.alloc Hown5.out _) [.int .i64 (maxTo (g j) k : Nat)] rfl rfl ?c1 ?c2 ?c3 ?c4 ?_)
          case c1 => intro q u hq; exact new_one _ _ _ hq
          case c2 => intro u hu; simp at hu; subst hu; rfl
          case c3 => simp; omega
          case c4 => have := Hb5.out.size; simp; omega
          intro v7 w7 hown7 hb7 _
          have HO := Lib.hid (show OwnInts w.heap.size w7 v7 ((List.range (j + 1)).map fun i => (maxTo (g i) k : Int)) from by
            rw [List.range_succ, List.map_append]; refine OwnInts.snoc (l := (List.range j).map fun i => (maxTo (g i) k : Int)) ?_; simpa [List.map_map] using hown7)
          have hb' := Lib.hid (show Below w.heap.size w w7 from (Below.alloc Hb5.out Hb5.out.size _).trans hb7)
          clear hown7 hb7
          go_wp2_with fail
          go_roundw
          case rel => exact ⟨j + 1, by go_num, by omega, hb'.out, HO.out⟩
          case measure => simp [intOf]; omega
    · obtain rfl : j = n := by omega
      go_wp2_with fail
      go_ret
      exact ⟨_, rfl, Hown'.out, Hb'.out⟩
#print axioms matchR_any
#print axioms matchE_any
end Go.Proofs.Ytbnlkmblkokooaa

/- Contracts of the reference's Common and of Common. -/
import Derived.Test.YtbnlkmblkokooaaRs
namespace Go.Proofs.Ytbnlkmblkokooaa
open Go.RowKit

theorem new_one (w : World) (x : Value) (e : TypeId) {q : Nat} {u : Value} (hq : [x][q]? = some u) : (w.alloc (.cells #[x] e)).cell? ⟨w.heap.size, q, none⟩ = some u := by rw [cell_new]; simpa using hq
def comUp (l : Bs) (j : Nat) : List Int := (List.range j).map fun i => (comAt l i : Int)
theorem comUp_succ (l : Bs) (j : Nat) : comUp l (j + 1) = comUp l j ++ [(comAt l j : Int)] := by simp [comUp, List.range_succ]
theorem comUp_length (l : Bs) (j : Nat) : (comUp l j).length = j := by simp [comUp]
set_option maxRecDepth 100000 in
set_option maxHeartbeats 4000000 in
theorem commonR_any (s : ByteArray) (hs : s.size ≤ 1000) (w : World) :
    Calls Try.prog 25 #[.string s] w fun e w' => ∃ v', e = .returned v' ∧ OwnInts w.heap.size w' v' (castN (com (bs s))) ∧ Below w.heap.size w w' := by
  obtain ⟨n, hn⟩ : ∃ n, n = s.size := ⟨_, rfl⟩
  have HN := Lib.hid hn
  have hn1 : n ≤ 1000 := by omega
  have HS := Lib.hid (sortR_any s hs w)
  obtain ⟨L, hL⟩ : ∃ L, L = bs s := ⟨_, rfl⟩
  have HL := Lib.hid hL
  have HLn := Lib.hid (show L.length = n by rw [hL, bs_len, hn])
  rw [← hL]
  clear hn hL
  go_enter Try.func25, Try.ntmps25
  go_wp2_with fail
  refine HS.out.mono ?_
  rintro e w1 ⟨v1, rfl, ho1, hb1⟩
  rw [← HL.out] at ho1
  obtain ⟨a1, b1, off1, cap1, rfl, hle1, ha1, hc1⟩ := Ints.nats (OwnInts.ints ho1)
  have hsl : (sa L).length = n + 1 := by rw [sa_length, HLn.out]
  rw [hsl] at ha1 hc1 hle1 ⊢
  have hix1 := run_ix (P := Try.prog) (t := 23) (a := a1) (len := n + 1) (cap := cap1) (b := b1) (off := off1) (s := 1) Try.underlying23 (by intro w; kernel_rfl) ha1
  simp only [Nat.mul_one] at hix1
  have Hix1 := Lib.hid hix1
  have Hc1 := Lib.hid (show ∀ i, i < n + 1 → w1.cell? ⟨b1, off1 + i, none⟩ = some (.int .i64 (saAt L i : Nat)) from hc1)
  have Hb1 := Lib.hid hb1
  clear ho1 ha1 hc1 hsl hix1 hb1
  go_wp2_with fail
  go_loopw [3, 5] (fun o i wr => ∃ j : Nat, i = .int .i64 ((j : Int) + 1) ∧ j ≤ n ∧ Below w1.heap.size w1 wr ∧ OwnInts w1.heap.size wr o (comUp L j)) (fun _ i _ => n + 1 - (intOf i).toNat)
  case atStart => exact ⟨0, rfl, Nat.zero_le _, Below.refl _ _, ownInts_nil _ _⟩
  case round =>
    obtain ⟨j, rfl, hj, hb', hown'⟩ := hrel
    have Hb' := Lib.hid hb'
    have Hown' := Lib.hid hown'
    clear hb' hown'
    by_cases hltj : j < n
    · have hixj := Hix1.out j
      have hixj1 : ∀ w, j + 1 < n + 1 → (Instr.indexAt 23 (.slice a1 (n + 1) cap1) (.int .i64 ((j : Int) + 1))).run Try.prog w = .ok (.pointer (some ⟨b1, off1 + (j + 1), none⟩)) w := fun w h => by have := Hix1.out (j + 1) w h; simpa using this
      have hwj : IntKind.i64.wrap (j : Int) = (j : Int) := IntWalk.i64_in _ ⟨by omega, by omega⟩
      have hc1 := Below.keep Hb'.out (Hc1.out j (by omega))
      have hc2 := Below.keep Hb'.out (Hc1.out (j + 1) (by omega))
      obtain ⟨x, hx⟩ : ∃ x, x = saAt L j := ⟨_, rfl⟩
      obtain ⟨y, hy⟩ : ∃ y, y = saAt L (j + 1) := ⟨_, rfl⟩
      have hxs : x ≤ s.size := by have := saAt_le L j; have := HLn.out; have := HN.out; omega
      have hys : y ≤ s.size := by have := saAt_le L (j + 1); have := HLn.out; have := HN.out; omega
      have HA := Lib.hid (show ∀ W, Calls Try.prog 56 #[.string (s.extract x s.size), .string (s.extract y s.size)] W fun e w' => e = .returned (.int .i64 (comAt L j : Nat)) ∧ ∃ q, w' = W.drewN q from fun W => by
        have h := agree_any (s.extract x s.size) (s.extract y s.size) (by rw [ByteArray.size_extract]; omega) W
        rw [bs_drop, bs_drop, ← HL.out, hx, hy] at h
        rw [hx, hy]
        exact h)
      rw [← hx] at hc1
      rw [← hy] at hc2
      have hd : decide ((j : Int) + 1 < (n : Int) + 1) = true := decide_eq_true (by omega)
      clear hx hy
      go_wp2_with fail
      go_upto_region 6 with fail
      go_region_law (first
        | (go_simp; go_at_call 56; refine (HA.out _).mono ?_; rintro e w' ⟨rfl, q, rfl⟩; go_simp)
        | (refine step_append_own rfl (.tmp 14) (.tmp 29) 23 rfl elemInts (by rfl) (base := w1.heap.size) (World.ownsRow.alloc Hown'.out _) [.int .i64 (comAt L j : Nat)] (by rfl) (by rfl) (by intro q u hq; exact new_one _ _ _ hq) (by intro u hu; simp at hu; subst hu; rfl) (by rw [comUp_length]; omega) (by have := Hb'.out.size; simp; omega) ?_; intro v' w7 hown7 hb7))
      all_goals
        have HO := Lib.hid (show OwnInts w1.heap.size w7 v' (comUp L (j + 1)) from by rw [comUp_succ]; exact OwnInts.snoc hown7)
        have hb' := Lib.hid (show Below w1.heap.size w1 w7 from (Below.alloc (bdrewN Hb'.out _) (by have := Hb'.out.size; simpa using this) _).trans hb7)
        clear hown7 hb7 hc1 hc2 hixj hixj1 hwj
        go_wp2_with fail
        go_roundw
        case rel => exact ⟨j + 1, by go_num, by omega, hb'.out, HO.out⟩
        case measure => simp [intOf]; omega
    · obtain rfl : j = n := by omega
      have HO := Lib.hid (show OwnInts w.heap.size wr u3 (castN (com L)) from by
        have := OwnInts.base Hown'.out (base' := w.heap.size) Hb1.out.size
        unfold comUp at this
        rw [← HLn.out, com_cast] at this
        exact this)
      have hd : decide ((j : Int) + 1 < (j : Int) + 1) = false := decide_eq_false (by omega)
      go_wp2_with fail
      go_ret
      exact ⟨_, rfl, HO.out, Below.tr Hb1.out Hb'.out⟩
theorem commonE_bad {s : ByteArray} (hs : s.size ≤ 1000) (h : ¬ Lab (bs s)) (w : World) :
    Calls Try.prog 20 #[.string s] w fun e w' => e = .returned (.tuple #[.slice none 0 0, .int .i64 2]) ∧ w = w' := by
  have H := Lib.hid (isLabel_b s hs false (decide_eq_false h) w)
  clear h
  go_enter Try.func20, Try.ntmps20
  go_wp2_with fail
  refine H.out.mono ?_
  rintro e w1 ⟨rfl, rfl⟩
  go_wp2_with fail
  go_ret2
  exact ⟨rfl, rfl⟩
def ComPost (s : ByteArray) (w : World) (e : Ending) (w' : World) : Prop := ∃ v', e = .returned (.tuple #[v', .int .i64 0]) ∧ OwnInts w.heap.size w' v' (castN (com (bs s))) ∧ Below w.heap.size w w'
theorem lab_size {s : ByteArray} (h : Lab (bs s)) : s.size ≤ 200 := by have := h.1; rwa [bs_len] at this
theorem commonE_any {s : ByteArray} (h : Lab (bs s)) (w : World) :
    Calls Try.prog 20 #[.string s] w (ComPost s w) := by
  have hs : s.size ≤ 1000 := by have := lab_size h; omega
  have H := Lib.hid (isLabel_b s hs true (decide_eq_true h) w)
  have H2 := Lib.hid (common_any s hs w)
  clear h
  go_enter Try.func20, Try.ntmps20
  go_wp2_with fail
  refine H.out.mono ?_
  rintro e w1 ⟨rfl, rfl⟩
  go_wp2_with fail
  refine H2.out.mono ?_
  rintro e w2 ⟨v2, rfl, ho, hb⟩
  have Ho := Lib.hid ho
  have Hb := Lib.hid hb
  clear ho hb H H2
  go_wp2_with fail
  go_ret2
  exact ⟨_, rfl, Ho.out, Hb.out⟩
#print axioms commonR_any
end Go.Proofs.Ytbnlkmblkokooaa

/- Locate of an index that New made. -/
import Derived.Test.YtbnlkmblkokooaaSuf
import Derived.Test.YtbnlkmblkokooaaDis
import Derived.Test.YtbnlkmblkokooaaBsk
namespace Go.Proofs.Ytbnlkmblkokooaa
open Go.RowKit
theorem insertionI_0 (A : Option Addr) (cap : Nat) (w : World) :
    Calls Try.prog 101 #[.slice A 0 cap, .int .i64 0, .int .i64 0] w fun e w' => e = .returned (.tuple #[]) ∧ w = w' := by
  go_enter Try.func101, Try.ntmps101
  go_wp2
  go_loopw [6] (fun vi wr => vi = .int .i64 1 ∧ wr = w) (fun _ _ => 0)
  case atStart => exact ⟨rfl, rfl⟩
  case round =>
    obtain ⟨rfl, hw⟩ := hrel
    subst hw
    go_wp2
    go_end0
    exact ⟨rfl, rfl⟩
theorem pdqI_0 (A : Option Addr) (cap limit : Nat) (w : World) :
    Calls Try.prog 73 #[.slice A 0 cap, .int .i64 0, .int .i64 0, .int .i64 limit] w fun e w' => e = .returned (.tuple #[]) ∧ w = w' := by
  go_enter Try.func73, Try.ntmps73
  go_wp2
  go_loopw [1, 2, 3, 8, 9] (fun v1 v2 v3 v8 v9 wr => v1 = .int .i64 0 ∧ v2 = .int .i64 0 ∧ v3 = .int .i64 limit ∧ v8 = .bool true ∧ v9 = .bool true ∧ wr = w) (fun _ _ _ _ _ _ => 0)
  case atStart => exact ⟨rfl, rfl, rfl, rfl, rfl, rfl⟩
  case round =>
    obtain ⟨rfl, rfl, rfl, rfl, rfl, hw⟩ := hrel
    subst hw
    go_wp2_with fail
    refine (insertionI_0 A cap _).mono ?_
    rintro e w1 ⟨rfl, rfl⟩
    go_wp2_with fail
    (try simp only [Exit.inBlock, Exit.then]); refine bodyPost_ret (results_none rfl _ _ _) rfl ?_
    exact ⟨rfl, rfl⟩
theorem sortI_0 (A : Option Addr) (cap : Nat) (w : World) :
    Calls Try.prog 51 #[.slice A 0 cap] w fun e w' => e = .returned (.tuple #[]) ∧ w = w' := by
  have hL : ∀ w, Calls Try.prog 72 #[.int .u64 0] w fun e w' => e = .returned (.int .i64 (0 : Nat)) ∧ w' = w := fun w => Try.bits_Len 0 w (by omega) (by omega)
  have HL := Lib.hid hL
  clear hL
  go_enter Try.func51, Try.ntmps51
  go_wp2_with fail
  refine (HL.out _).mono ?_
  rintro e w1 ⟨rfl, rfl⟩
  go_wp2_with fail
  refine (pdqI_0 A cap 0 _).mono ?_
  rintro e w1 ⟨rfl, rfl⟩
  go_wp2_with fail
  go_end0
  exact ⟨rfl, rfl⟩
theorem srt_nil : srt [] = [] := by simp [srt]
theorem sort_any0 (B : Nat) (l : List Int) (v : Value) (w : World) (hm : l.length ≤ 100000) (hB : B ≤ w.heap.size) (hv : OwnInts B w v l) :
    Calls Try.prog 51 #[v] w (SortPost B l v w) := by
  by_cases h0 : 0 < l.length
  · exact sort_any B l v w h0 hm hB hv
  · have hl : l = [] := by cases l with | nil => rfl | cons x m => exact absurd (Nat.succ_pos _) h0
    subst hl
    have hv0 := hv
    rcases hv.2 with ⟨rfl, _⟩ | ⟨g, cap, cur, rfl, _⟩
    · refine (sortI_0 _ _ _).mono ?_
      rintro e w' ⟨rfl, rfl⟩
      exact ⟨rfl, by rw [srt_nil]; exact hv0, Below.refl _ _⟩
    · refine (sortI_0 _ _ _).mono ?_
      rintro e w' ⟨rfl, rfl⟩
      exact ⟨rfl, by rw [srt_nil]; exact hv0, Below.refl _ _⟩
#print axioms sort_any0
/-- the suffixes at the first places from one on -/
def sufs (l : Bs) (a k : Nat) : List Nat := (List.range k).map fun j => saAt l (a + j)
theorem sufs_len (l : Bs) (a k : Nat) : (sufs l a k).length = k := by simp [sufs]
theorem sufs_succ (l : Bs) (a k : Nat) : sufs l a (k + 1) = sufs l a k ++ [saAt l (a + k)] := by simp [sufs, List.range_succ]
theorem sufs_perm (l q : Bs) : (sufs l (lo l q) (hi l q - lo l q)).Perm (occ' l q) := by
  have hle := count_le l q
  have hh := hi_le l q
  have hinj : ∀ i j, i ≤ l.length → j ≤ l.length → saAt l i = saAt l j → i = j := by
    intro i j hi hj e
    rcases Nat.lt_trichotomy i j with h | h | h
    · have := saAt_lt (l := l) h (by omega)
      rw [e] at this
      exact (sl_irr _ _ this).elim
    · exact h
    · have := saAt_lt (l := l) h (by omega)
      rw [e] at this
      exact (sl_irr _ _ this).elim
  refine (List.perm_ext_iff_of_nodup ?_ ?_).2 ?_
  · unfold sufs
    rw [List.Nodup, List.pairwise_map]
    refine (List.pairwise_lt_range).imp_of_mem ?_
    intro i j hi hj hij e
    have hi' := List.mem_range.1 hi
    have hj' := List.mem_range.1 hj
    have := hinj _ _ (by omega) (by omega) e
    omega
  · unfold occ'
    exact List.nodup_range.filter _
  · intro m
    unfold sufs occ'
    rw [List.mem_filter, List.mem_map]
    constructor
    · rintro ⟨j, hj, rfl⟩
      have hj' := List.mem_range.1 hj
      refine ⟨List.mem_range.2 (by have := saAt_le l (lo l q + j); omega), (place_iff l q (by omega)).2 ⟨by omega, by omega⟩⟩
    · rintro ⟨h1, h2⟩
      obtain ⟨k, hk, rfl⟩ := sa_surj l (m := m) (by have := List.mem_range.1 h1; omega)
      obtain ⟨h3, h4⟩ := (place_iff l q hk).1 h2
      exact ⟨k - lo l q, List.mem_range.2 (by omega), by congr 1; omega⟩
theorem srt_of {l : List Nat} {r : List Nat} (hp : l.Perm r) (hs : r.Pairwise (· < ·)) : srt (castN l) = castN r := by
  have hp' : (srt (castN l)).Perm (castN r) := (List.mergeSort_perm _ _).trans (hp.map _)
  have hs' : (srt (castN l)).Pairwise (fun x y => x ≤ y) := by
    have := List.pairwise_mergeSort (le := fun x y : Int => decide (x ≤ y)) (fun a b c h1 h2 => by simp at *; omega) (fun a b => by simp; omega) (castN l)
    exact this.imp (fun h => by simpa using h)
  have hr : (castN r).Pairwise (fun x y : Int => x ≤ y) := by
    unfold castN
    rw [List.pairwise_map]
    exact hs.imp (fun h => by omega)
  exact List.Perm.eq_of_pairwise (le := fun x y : Int => x ≤ y) (fun a b _ _ h1 h2 => by omega) hs' hr hp'
theorem srt_sufs (l q : Bs) : srt (castN (sufs l (lo l q) (hi l q - lo l q))) = castN (occ' l q) :=
  srt_of (sufs_perm l q) (List.pairwise_lt_range.filter _)
#print axioms srt_sufs
set_option maxRecDepth 100000 in
set_option maxHeartbeats 4000000 in
theorem locate_yes {B : Nat} {l : Bs} {v : Value} {p : ByteArray} (hl : Lab l) (hp : Lab (bs p)) (w : World) (hm : Made B w v l) :
    Calls Try.prog 35 #[v, .string p] w fun e w' => ∃ v', e = .returned (.tuple #[v', .int .i64 0]) ∧ OwnInts w.heap.size w' v' (castN (occ' l (bs p))) ∧ Below w.heap.size w w' := by
  have hps := lab_size hp
  have HY := Lib.hid hm.yes
  have HL := Lib.hid (isLabel_b p (by omega) true (decide_eq_true hp))
  have HP := Lib.hid (places_any hl hp w hm)
  have HS := Lib.hid (fun (w' : World) (hb : Below w.heap.size w w') (k : Nat) (hk : k ≤ l.length) => suffix_any hl w' (hm.keep hb) k hk)
  have hle := count_le l (bs p)
  have hh := hi_le l (bs p)
  have HQ := Lib.hid (srt_sufs l (bs p))
  obtain ⟨a, ha⟩ : ∃ a, a = lo l (bs p) := ⟨_, rfl⟩
  obtain ⟨b, hb⟩ : ∃ b, b = hi l (bs p) := ⟨_, rfl⟩
  have h200 := hl.1
  unfold PlPost at HP
  rw [← ha, ← hb] at HP HQ hle
  rw [← hb] at hh
  have hb1 : b ≤ 201 := by omega
  have HN := Lib.hid hh
  clear hm ha hb hh h200 hps
  go_enter Try.func35, Try.ntmps35
  go_wp2_with fail
  refine HY.out.mono ?_
  rintro e w1 ⟨rfl, hw1⟩
  subst hw1
  go_wp2_with fail
  refine (HL.out _).mono ?_
  rintro e w2 ⟨rfl, hw2⟩
  subst hw2
  go_wp2_with fail
  refine HP.out.mono ?_
  rintro e w3 ⟨rfl, q3, rfl⟩
  go_wp2_with fail
  go_loopw [8, 9] (fun o i wr => ∃ k : Nat, i = .int .i64 (a + k : Nat) ∧ a + k ≤ b ∧ Below w.heap.size w wr ∧ OwnInts w.heap.size wr o (castN (sufs l a k))) (fun _ i _ => b - (intOf i).toNat)
  case atStart => exact ⟨0, rfl, hle, bdrewN (Below.refl _ _) q3, ownInts_nil _ _⟩
  case round =>
    obtain ⟨k, rfl, hk, hb', hown'⟩ := hrel
    have Hb' := Lib.hid hb'
    have Hown' := Lib.hid hown'
    clear hb' hown'
    obtain ⟨i, hi⟩ : ∃ i, i = a + k := ⟨_, rfl⟩
    have HI := Lib.hid hi
    rw [← hi] at hk ⊢
    clear hi
    by_cases hlt : i < b
    · have HSi := Lib.hid (HS.out wr Hb'.out i (by have := HN.out; omega))
      obtain ⟨m, hm⟩ : ∃ m, m = saAt l i := ⟨_, rfl⟩
      rw [← hm] at HSi
      have HM := Lib.hid hm
      clear hm
      go_wp2_with fail
      refine HSi.out.mono ?_
      rintro e w5 ⟨rfl, q5, rfl⟩
      go_wp2_with (at_builtin; refine append_own rfl (.tmp 28) (.tmp 32) 23 rfl elemInts rfl (World.ownsRow.alloc (owns_drewN Hown'.out q5) _) [.int .i64 (m : Nat)] rfl rfl ?c1 ?c2 ?c3 ?c4 ?_)
      case c1 => intro q u hq; exact new_one _ _ _ hq
      case c2 => intro u hu; simp at hu; subst hu; rfl
      case c3 => rw [castN_length, sufs_len]; have := HI.out; omega
      case c4 => have := Hb'.out.size; simp; omega
      intro v7 w7 hown7 hb7 _
      have HO := Lib.hid (show OwnInts w.heap.size w7 v7 (castN (sufs l a (k + 1))) from by
        rw [sufs_succ, castN_append, ← HI.out, ← HM.out]; exact OwnInts.snoc hown7)
      have hb' := Lib.hid (show Below w.heap.size w w7 from (Below.alloc (bdrewN Hb'.out q5) (by have := Hb'.out.size; exact this) _).trans hb7)
      clear hown7 hb7
      go_wp2_with fail
      go_roundw
      case rel => exact ⟨k + 1, by have := HI.out; go_num, by have := HI.out; omega, hb'.out, HO.out⟩
      case measure => simp [intOf]; omega
    · have hk2 : k = b - a := by have := HI.out; omega
      subst hk2
      have HT := Lib.hid (sort_any0 w.heap.size _ u8 wr (by rw [castN_length, sufs_len]; omega) Hb'.out.size Hown'.out)
      clear Hown'
      go_wp2_with fail
      refine HT.out.mono ?_
      rintro e w8 ⟨rfl, ho8, hb8⟩
      have Ho8 := Lib.hid ho8
      have Hb8 := Lib.hid hb8
      clear ho8 hb8
      go_wp2_with fail
      go_ret2
      exact ⟨_, rfl, by have := Ho8.out; rwa [HQ.out] at this, Hb'.out.trans Hb8.out⟩
#print axioms locate_yes
/-! ### what is no label, and no index -/
theorem newE_bad {s : ByteArray} (hs : s.size ≤ 1000) (h : ¬ Lab (bs s)) (w : World) :
    Calls Try.prog 33 #[.string s] w fun e w' => e = .returned (.tuple #[.pointer none, .int .i64 2]) ∧ w = w' := by
  have H := Lib.hid (isLabel_b s hs false (decide_eq_false h) w)
  clear h
  go_enter Try.func33, Try.ntmps33
  go_wp2_with fail
  refine H.out.mono ?_
  rintro e w1 ⟨rfl, rfl⟩
  go_wp2_with fail
  go_ret2
  exact ⟨rfl, rfl⟩
theorem nil_made (w : World) : Calls Try.prog 64 #[.pointer none] w fun e w' => e = .returned (.bool false) ∧ w = w' := by
  go_enter Try.func64, Try.ntmps64
  go_wp2_with fail
  go_ret
  exact ⟨rfl, rfl⟩
theorem nil_count (w : World) (s : ByteArray) : Calls Try.prog 34 #[.pointer none, .string s] w fun e w' => e = .returned (.tuple #[.int .i64 0, .int .i64 1]) ∧ w = w' := by
  have H := Lib.hid (nil_made w)
  go_enter Try.func34, Try.ntmps34
  go_wp2_with fail
  refine H.out.mono ?_
  rintro e w' ⟨rfl, rfl⟩
  go_wp2_with fail
  go_ret2
  exact ⟨rfl, rfl⟩
theorem nil_locate (w : World) (s : ByteArray) : Calls Try.prog 35 #[.pointer none, .string s] w fun e w' => e = .returned (.tuple #[.slice none 0 0, .int .i64 1]) ∧ w = w' := by
  have H := Lib.hid (nil_made w)
  go_enter Try.func35, Try.ntmps35
  go_wp2_with fail
  refine H.out.mono ?_
  rintro e w' ⟨rfl, rfl⟩
  go_wp2_with fail
  go_ret2
  exact ⟨rfl, rfl⟩
end Go.Proofs.Ytbnlkmblkokooaa

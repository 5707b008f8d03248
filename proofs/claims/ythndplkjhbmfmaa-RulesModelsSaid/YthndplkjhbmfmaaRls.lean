/- Contracts of setOf, slices.Sorted over the keys of a set, list. -/
import Derived.Test.YthndplkjhbmfmaaRmm
import Derived.Test.YthndplkjhbmfmaaRky
import Derived.Test.YthndplkjhbmfmaaRsh
import Derived.Test.YthndplkjhbmfmaaRgr
import Derived.Sort.OwnSortedInts
namespace Go.Proofs.Ythndplkjhbmfmaa
open Go.RowKit
def srt (l : List Int) : List Int := l.mergeSort fun x y => decide (x ≤ y)
theorem srt_length (l : List Int) : (srt l).length = l.length := by simp [srt]
theorem srt_mem (l : List Int) (x : Int) : x ∈ srt l ↔ x ∈ l := (List.mergeSort_perm _ _).mem_iff
theorem srt_asc {l : List Int} (h : l.Nodup) : (srt l).Pairwise fun a b => a < b := by
  have hp := List.pairwise_mergeSort (le := fun x y : Int => decide (x ≤ y)) (fun a b c h1 h2 => by simp at *; omega) (fun a b => by simp; omega) l
  have hn : (srt l).Nodup := (List.mergeSort_perm _ _).nodup_iff.2 h
  exact (hp.and hn).imp fun ⟨h1, h2⟩ => by
    have h1 : decide (_ ≤ _) = true := h1
    simp at h1
    omega
def SortPost (B : Nat) (l : List Int) (v : Value) (w : World) (e : Ending) (w' : World) : Prop := e = .returned (.tuple #[]) ∧ OwnInts B w' v (srt l) ∧ Below B w w'
theorem grown_belowS {w w' : World} {base size n : Nat} {e : TypeId} {v : Value} {xs : List Value} (h : w.ownsRow base e size v n xs) (hg : w.grownBy w' v.ownBlock) (hB : base ≤ w.heap.size) : Below base w w' :=
  ⟨hg.os, hg.tape, hg.output, hg.size, fun k hk => hg.block k (by omega) fun e => by have := (own_lt h e.symm).1; omega⟩
theorem sortK_1 (B : Nat) (l : List Int) (v : Value) (w : World) (hl : 0 < l.length) (hm : l.length ≤ 100000) (hB : B ≤ w.heap.size) (hv : OwnInts B w v l) :
    Calls Try.prog 145 #[v] w (SortPost B l v w) := by
  have hv0 := hv
  rcases hv.2 with ⟨_, h0⟩ | ⟨g, cap, cur, rfl, hbg, hg, hnc, hcm, hcs, htake⟩
  · omega
  · rw [Nat.mul_one] at htake
    refine (Try.slices_Sort_int g 0 cap l w (holds_of_blockI hg htake) (Array.getElem?_eq_some_iff.1 hg).1 (by omega)).mono ?_
    rintro e w' ⟨he, n, os, rfl⟩
    refine ⟨he, ?_, grown_belowS hv0 (grownBy_sortedI _) hB⟩
    have := ownsRow_sortedI (w := w) (n := n) (os := os) (ss := l) (ts := srt l) (by simp [srt]) hbg hg hnc hcm hcs
    unfold OwnInts
    rw [srt_length]
    exact this
theorem insertionI_0 (A : Option Addr) (cap : Nat) (w : World) :
    Calls Try.prog 152 #[.slice A 0 cap, .int .i64 0, .int .i64 0] w fun e w' => e = .returned (.tuple #[]) ∧ w = w' := by
  go_enter Try.func152, Try.ntmps152
  go_wp2
  go_loopw [6] (fun vi wr => vi = .int .i64 1 ∧ wr = w) (fun _ _ => 0)
  case atStart => exact ⟨rfl, rfl⟩
  case round =>
    obtain ⟨rfl, hw⟩ := hrel
    subst hw
    go_wp2
    go_end0
    exact ⟨rfl, rfl⟩
theorem pdqI_0 (A : Option Addr) (cap limit : Nat) (w : World) :
    Calls Try.prog 150 #[.slice A 0 cap, .int .i64 0, .int .i64 0, .int .i64 limit] w fun e w' => e = .returned (.tuple #[]) ∧ w = w' := by
  go_enter Try.func150, Try.ntmps150
  go_wp2
  go_loopw [1, 2, 3, 8, 9] (fun v1 v2 v3 v8 v9 wr => v1 = .int .i64 0 ∧ v2 = .int .i64 0 ∧ v3 = .int .i64 limit ∧ v8 = .bool true ∧ v9 = .bool true ∧ wr = w) (fun _ _ _ _ _ _ => 0)
  case atStart => exact ⟨rfl, rfl, rfl, rfl, rfl, rfl⟩
  case round =>
    obtain ⟨rfl, rfl, rfl, rfl, rfl, hw⟩ := hrel
    subst hw
    go_wp2_with fail
    refine (insertionI_0 A cap _).mono ?_
    rintro e w1 ⟨rfl, rfl⟩
    go_wp2_with fail
    (try simp only [Exit.inBlock, Exit.then]); refine bodyPost_ret (results_none rfl _ _ _) rfl ?_
    exact ⟨rfl, rfl⟩
theorem sortI_0 (A : Option Addr) (cap : Nat) (w : World) :
    Calls Try.prog 145 #[.slice A 0 cap] w fun e w' => e = .returned (.tuple #[]) ∧ w = w' := by
  have hL : ∀ w, Calls Try.prog 151 #[.int .u64 0] w fun e w' => e = .returned (.int .i64 (0 : Nat)) ∧ w' = w := fun w => Try.bits_Len 0 w (by omega) (by omega)
  have HL := Lib.hid hL
  clear hL
  go_enter Try.func145, Try.ntmps145
  go_wp2_with fail
  refine (HL.out _).mono ?_
  rintro e w1 ⟨rfl, rfl⟩
  go_wp2_with fail
  refine (pdqI_0 A cap 0 _).mono ?_
  rintro e w1 ⟨rfl, rfl⟩
  go_wp2_with fail
  go_end0
  exact ⟨rfl, rfl⟩
theorem srt_nil : srt [] = [] := by simp [srt]
theorem sortK_any (B : Nat) (l : List Int) (v : Value) (w : World) (hm : l.length ≤ 100000) (hB : B ≤ w.heap.size) (hv : OwnInts B w v l) :
    Calls Try.prog 145 #[v] w (SortPost B l v w) := by
  by_cases h0 : 0 < l.length
  · exact sortK_1 B l v w h0 hm hB hv
  · have hl : l = [] := by cases l with | nil => rfl | cons x m => exact absurd (Nat.succ_pos _) h0
    subst hl
    have hv0 := hv
    rcases hv.2 with ⟨rfl, _⟩ | ⟨g, cap, cur, rfl, _⟩
    · refine (sortI_0 _ _ _).mono ?_
      rintro e w' ⟨rfl, rfl⟩
      exact ⟨rfl, by rw [srt_nil]; exact hv0, Below.refl _ _⟩
    · refine (sortI_0 _ _ _).mono ?_
      rintro e w' ⟨rfl, rfl⟩
      exact ⟨rfl, by rw [srt_nil]; exact hv0, Below.refl _ _⟩
theorem keysK_any (m : Nat) (w : World) : Calls Try.prog 126 #[.map (some m)] w fun e w' => e = .returned (.func (.func 146) #[] #[.pointer (some ⟨w.heap.size, 0, none⟩)]) ∧ w' = w.alloc (.cells #[.map (some m)] 130) := by
  go_enter Try.func126, Try.ntmps126
  go_wp2_with fail
  go_ret
  exact ⟨rfl, rfl⟩
/-- slices.Sorted(maps.Keys(s)) -/
theorem sortedK_any {b nn : Nat} {p : Int → Prop} (w : World) (hown : KSet w b nn p) (Bm : Nat) (hBm : Bm < w.heap.size) (hm : w.cell? ⟨Bm, 0, none⟩ = some (.map (some b))) :
    Calls Try.prog 125 #[.func (.func 146) #[] #[.pointer (some ⟨Bm, 0, none⟩)]] w fun e w' => ∃ (a : Option Addr) (n c : Nat) (L : List Int), e = .returned (.slice a n c) ∧ (L.Pairwise (fun a b => a < b) ∧ ∀ v, v ∈ L ↔ p v) ∧ OwnInts w.heap.size w' (.slice a n c) L ∧ Below w.heap.size w w' := by
  have HC := Lib.hid (collectK_any w hown (Nat.le_trans hown.le (by omega)) Bm hBm hm)
  have Hle := Lib.hid hown.le
  have Hown := Lib.hid hown
  clear hown hBm hm
  go_enter Try.func125, Try.ntmps125
  go_wp2_with fail
  refine HC.out.mono ?_
  clear HC
  rintro e w5 ⟨a, c, ss, rfl, ⟨h1, h2⟩, h3, h4⟩
  have Hn := Lib.hid h1
  have Hm := Lib.hid h2
  have Hb := Lib.hid h4
  have hlen := Hown.out.len h1 h2
  obtain ⟨n, hn⟩ : ∃ x, x = ss.length := ⟨_, rfl⟩
  rw [← hn] at h3 ⊢
  have HS := Lib.hid (sortK_any w.heap.size ss (.slice a n c) w5 (by have := Hle.out; omega) Hb.out.size h3)
  clear h1 h2 h3 h4 hn hlen
  go_wp2_with fail
  refine HS.out.mono ?_
  rintro e w6 ⟨rfl, h1, h2⟩
  have H1 := Lib.hid h1
  have Hb6 := Lib.hid (Hb.out.trans h2)
  clear h1 h2
  go_wp2_with fail
  go_ret
  exact ⟨a, n, c, srt ss, rfl, ⟨srt_asc Hn.out, fun v => (srt_mem ss v).trans (Hm.out v)⟩, H1.out, Hb6.out⟩
theorem factNotInt : 50 ≠ 3 := by decide
set_option maxRecDepth 100000 in
set_option maxHeartbeats 8000000 in
/-- list: the facts of a set in their order -/
theorem list_any {b nn : Nat} {p : Int → Prop} (hp : ∀ c, p c → ∃ f, FcR f ∧ pcd f = c) (w : World) (hown : KSet w b nn p) :
    Calls Try.prog 75 #[.map (some b)] w fun e w' => ∃ (a : Option Addr) (n c : Nat) (L : List Int), e = .returned (.slice a n c) ∧ (L.Pairwise (fun a b => a < b) ∧ ∀ v, v ∈ L ↔ p v) ∧ OwnAtoms 50 w.heap.size w' (.slice a n c) (L.map unpc) ∧ Below w.heap.size w w' := by
  have HK := Lib.hid (keysK_any b w)
  have HO := Lib.hid hown
  have Hp := Lib.hid hp
  clear hown hp
  go_enter Try.func75, Try.ntmps75
  go_wp2_with fail
  refine HK.out.mono ?_
  clear HK
  rintro e w1 ⟨rfl, hw1⟩
  have hb1 : Below w.heap.size w w1 := by rw [hw1]; exact below_alloc _ _
  obtain ⟨bm, hbm⟩ : ∃ x, x = w.heap.size := ⟨_, rfl⟩
  have hc1 : w1.heap[bm]? = some (.cells #[.map (some b)] 130 (0, 0)) := by rw [hw1, hbm]; exact heap_alloc_new _ _
  have HS := Lib.hid (sortedK_any w1 (HO.out.keep hb1) bm (Array.getElem?_eq_some_iff.1 hc1).1 (aCell hc1 0 rfl))
  have Hb1 := Lib.hid hb1
  have Hbm := Lib.hid hbm
  rw [← Hbm.out]
  clear hw1 hb1 hc1 hbm
  go_wp2_with fail
  refine HS.out.mono ?_
  clear HS
  rintro e w2 ⟨a, n, c, L, rfl, ⟨h1, h2⟩, h3, h4⟩
  have HA := Lib.hid h1
  have HM := Lib.hid h2
  have Hb2 := Lib.hid (Below.tr Hb1.out h4)
  have HI := Lib.hid h3.ints
  have hl9 : L.length ≤ 294 := by
    have := len_le (h1.imp fun h => (by omega : _ ≠ _)) (m := (List.range 294).map fun (i : Nat) => (i : Int)) fun x hx => by
      have := HO.out.vok ((h2 x).1 hx)
      unfold KOk at this
      exact List.mem_map.2 ⟨x.toNat, List.mem_range.2 (by omega), by omega⟩
    simpa using this
  clear h1 h2 h3 h4
  obtain ⟨a', g, off, cap, hsl, hle, hia, hcs⟩ := Ints.get HI.out
  injection hsl with e1 e2 e3
  subst e1 e3
  have Hcs := Lib.hid (show ∀ i, i < L.length → w2.cell? ⟨g, off + i, none⟩ = some (.int .i64 (L.getD i 0)) from fun i hi => by rw [hcs i hi, List.getD_eq_getElem?_getD, List.getElem?_eq_getElem hi]; rfl)
  rw [← e2] at hle hia hl9
  have Hn := Lib.hid e2
  have Hix := Lib.hid (run_ix (P := Try.prog) (t := 23) (a := a) (len := n) (cap := c) (b := g) (off := off) (s := 1) Try.underlying23 (by intro w; kernel_rfl) hia)
  simp only [Nat.mul_one] at Hix
  clear hcs hia e2
  go_wp2_with fail
  go_loopw [3, 10] (fun vo vi wr => ∃ (k : Nat) (oa : Option Addr) (on oc : Nat), vo = .slice oa on oc ∧ vi = .int .i64 k ∧ k ≤ n ∧ Below w2.heap.size w2 wr ∧ OwnAtoms 50 w2.heap.size wr (.slice oa on oc) ((L.take k).map unpc)) (fun _ vi _ => n - (intOf vi).toNat)
  case atStart => exact ⟨0, none, 0, 0, rfl, rfl, Nat.zero_le _, Below.refl _ _, ⟨[], rfl, World.ownsRow_nil _ _ _ _, fun i hi => by cases hi⟩⟩
  case round =>
    generalize wr = wx at *
    obtain ⟨k, oa, on, oc, rfl, rfl, hk, hb, ho⟩ := hrel
    have Hb := Lib.hid hb
    have HO3 := Lib.hid ho
    clear hb ho
    by_cases hlt : k < n
    · have hlt2 : k < L.length := by rw [← Hn.out]; exact hlt
      have hck := Below.keep Hb.out (Hcs.out k hlt2)
      have hixk := Hix.out k
      have HT := Lib.hid (show (L.take (k + 1)).map unpc = (L.take k).map unpc ++ [unpc (L.getD k 0)] from by
        rw [List.take_succ_eq_append_getElem hlt2, List.map_append, List.getD_eq_getElem?_getD, List.getElem?_eq_getElem hlt2]; rfl)
      have hmm : L.getD k 0 ∈ L := by rw [List.getD_eq_getElem?_getD, List.getElem?_eq_getElem hlt2]; exact List.getElem_mem hlt2
      have hx := unpc_spec (Hp.out _ ((HM.out _).1 hmm))
      obtain ⟨x, hxe⟩ : ∃ x, x = L.getD k 0 := ⟨_, rfl⟩
      rw [← hxe] at hck HT hx
      obtain ⟨⟨r, A⟩, hf⟩ : ∃ f, f = unpc x := ⟨_, rfl⟩
      rw [← hf] at hx HT
      have HC := Lib.hid (fact_any (r, A) hx.1 x hx.2.symm wx)
      have hln : ((L.take k).map unpc).length = k := by rw [List.length_map, List.length_take]; omega
      clear hx hxe hf hmm hlt2
      go_wp2_with fail
      refine HC.out.mono ?_
      clear HC hck hixk
      rintro e w4 ⟨ua, un, uc, rfl, hu, hb4⟩
      have HO4 := Lib.hid (HO3.out.keep hb4)
      have HU := Lib.hid (hu.base Hb.out.size)
      have Hb4 := Lib.hid (Below.tr Hb.out hb4)
      clear hu hb4
      obtain ⟨w7, hw7⟩ : ∃ x, x = w4.alloc (.cells #[.int .i64 r, .slice ua un uc] 50) := ⟨_, rfl⟩
      have hb7 : Below w4.heap.size w4 w7 := by rw [hw7]; exact below_alloc _ _
      obtain ⟨bk, hbk⟩ : ∃ x, x = w4.heap.size := ⟨_, rfl⟩
      have HK := Lib.hid (show w7.heap[bk]? = some (.cells #[.int .i64 r, .slice ua un uc] 50 (0, 0)) from by rw [hw7, hbk]; exact heap_alloc_new _ _)
      obtain ⟨vs, s1, s2, s3⟩ := HO4.out.keep hb7
      have Hs1 := Lib.hid s1
      have Hs2 := Lib.hid s2
      have Hs3 := Lib.hid s3
      have HU7 := Lib.hid (HU.out.keep hb7)
      have Hb7 := Lib.hid (Below.tr Hb4.out hb7)
      have Hw7 := Lib.hid hw7
      have Hbk := Lib.hid hbk
      have hl2 : ((L.take k).map unpc).length + 1 ≤ 100000000000 := by omega
      clear hw7 hb7 hbk s1 s2 s3
      go_wp2_with (first | (at_builtin; rw [← Hw7.out, ← Hbk.out]; refine append_own rfl (.tmp 14) (.tmp 17) 39 rfl elemFacts rfl Hs2.out (m := 1) [.int .i64 r, .slice ua un uc] rfl rfl (fun k y hk => aCell HK.out k (by simpa using hk)) (by intro u hu; simp at hu; rcases hu with rfl | rfl <;> rfl) hl2 Hb7.out.size ?_; intro v9 w9 h91 h92 h93))
      have HO9 := Lib.hid (show OwnAtoms 50 w2.heap.size w9 v9 ((L.take (k + 1)).map unpc) from by
        rw [HT.out]
        exact OwnAtoms.snoc factNotInt Hs1.out Hs2.out Hs3.out HU7.out h93 h91)
      have Hb9 := Lib.hid (Hb7.out.trans h92)
      obtain ⟨pa, pn, pk, rfl⟩ := row_slice h91
      clear h91 h92 h93 hl2 hln
      go_wp2_with fail
      go_roundw
      case rel => exact ⟨k + 1, pa, pn, pk, rfl, by go_num, by omega, Hb9.out, HO9.out⟩
      case measure => simp [intOf]; omega
    · obtain rfl : n = k := by omega
      have HE := Lib.hid (show OwnAtoms 50 w.heap.size wx (.slice oa on oc) (L.map unpc) from by
        have := HO3.out
        rw [Hn.out, List.take_length] at this
        obtain ⟨vs, e1, e2, e3⟩ := this
        exact ⟨vs, e1, owns_mono e2 Hb2.out.size, fun i hi => (e3 i hi).base Hb2.out.size⟩)
      have HBe := Lib.hid (Hb2.out.trans (Hb.out.mono Hb2.out.size))
      go_wp2_with fail
      go_ret
      exact ⟨oa, on, oc, L, rfl, ⟨HA.out, HM.out⟩, HE.out, HBe.out⟩
#print axioms list_any
end Go.Proofs.Ythndplkjhbmfmaa

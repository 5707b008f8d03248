/- Contract of New. -/
import Derived.Test.YtbnlkmblkokooaaWrt
namespace Go.Proofs.Ytbnlkmblkokooaa
open Go.RowKit
theorem byts_of {w : World} {s : ByteArray} (cap : Nat) (h : s.size ≤ cap) (hs : s.size ≤ 1000000) (fz : Nat × Nat) : Byts (w.alloc (.cells (bytesRow s cap) 5 fz)) (.slice (some ⟨w.heap.size, 0, none⟩) s.size cap) (bs s) := by
  refine ⟨by rw [bcells_len, Nat.mul_one], by rw [bs_len]; unfold maxLen; omega, some ⟨w.heap.size, 0, none⟩, w.heap.size, 0, cap, by rw [bs_len], ⟨fun _ => rfl, by rw [bs_len]; exact h⟩, fun j hj => ?_⟩
  rw [bcells_len, bs_len] at hj
  have := heap_alloc_new w (.cells (bytesRow s cap) 5 fz)
  have h1 : j < (s.data.map (fun b => Value.int .u8 b.toNat)).size := by simpa using hj
  simp only [World.cell?, this, Nat.zero_add]
  unfold bytesRow
  simp only [Option.isSome_none, Bool.false_eq_true, if_false]
  rw [Array.getElem?_append_left h1]
  have hj2 : j < s.data.size := hj
  simp [Lib.byteCells, bs, Array.getElem?_eq_getElem hj2]
#print axioms byts_of
theorem lets_le (l : Bs) : (lets l).length ≤ 1000 := by
  have := List.length_filter_le (fun c => l.contains c) ((List.range 256).map UInt8.ofNat)
  unfold lets
  simp only [List.length_map, List.length_range] at this
  omega
/-- the block of an Index -/
def IxBlk (w : World) (g : Nat) (self tree : Value) (n : Nat) (f : Nat → Nat) : Prop := w.heap[g]? = some (.cells (#[self, tree, .int .i64 n] ++ Array.ofFn (n := 256) fun d => .int .i64 (f d.val : Nat)) 51 (0, 0))
set_option maxRecDepth 1000000 in
theorem zero_ix : Try.zeroCells51 = #[.pointer none, .pointer none, .int .i64 0] ++ Array.ofFn (n := 256) fun _ => .int .i64 0 := by kernel_rfl
set_option maxRecDepth 100000 in
theorem IxBlk.cell {w : World} {g n : Nat} {self tree : Value} {f : Nat → Nat} (h : IxBlk w g self tree n f) {d : Nat} (hd : d < 256) : w.cell? ⟨g, 3 + d, none⟩ = some (.int .i64 (f d : Nat)) := by
  unfold IxBlk at h
  rw [Lib.cell_of_heap h]
  have e : 3 + d - (#[self, tree, .int .i64 n] : Array Value).size = d := by show 3 + d - 3 = d; omega
  rw [Array.getElem?_append_right (by show 3 ≤ 3 + d; omega), e, Array.getElem?_ofFn, dif_pos hd]
theorem IxBlk.frozen {w : World} {g n : Nat} {self tree : Value} {f : Nat → Nat} (h : IxBlk w g self tree n f) (i : Nat) : w.frozen? ⟨g, i, none⟩ = false := by
  exact Lib.frozen_of_heap h i
theorem IxBlk.head {w : World} {g n : Nat} {self tree : Value} {f : Nat → Nat} (h : IxBlk w g self tree n f) : w.cell? ⟨g, 0, none⟩ = some self ∧ w.cell? ⟨g, 1, none⟩ = some tree ∧ w.cell? ⟨g, 2, none⟩ = some (.int .i64 n) := by
  unfold IxBlk at h
  refine ⟨?_, ?_, ?_⟩ <;> (rw [Lib.cell_of_heap h, Array.getElem?_append_left (by simp)]; rfl)
theorem IxBlk.set {w : World} {g n : Nat} {self tree : Value} {f f' : Nat → Nat} (h : IxBlk w g self tree n f) {d : Nat} (hd : d < 256) (h1 : ∀ e, e < 256 → e ≠ d → f' e = f e) : IxBlk (w.setCell ⟨g, 3 + d, none⟩ (.int .i64 (f' d : Nat))) g self tree n f' := by
  unfold IxBlk at h ⊢
  suffices key : (#[self, tree, .int .i64 n] ++ Array.ofFn (n := 256) fun d => Value.int .i64 (f d.val : Nat)).setIfInBounds (3 + d) (.int .i64 (f' d : Nat)) = #[self, tree, .int .i64 n] ++ Array.ofFn (n := 256) fun d => Value.int .i64 (f' d.val : Nat) by
    rw [heap_setCell_same w g (3 + d) _ _ _ h, key]
  apply Array.ext_getElem?
  intro i
  rw [Array.getElem?_setIfInBounds]
  by_cases hi : 3 + d = i
  · subst hi
    have e : 3 + d - (#[self, tree, .int .i64 n] : Array Value).size = d := by show 3 + d - 3 = d; omega
    rw [if_pos rfl, if_pos (by rw [Array.size_append, Array.size_ofFn]; show 3 + d < 3 + 256; omega), Array.getElem?_append_right (by show 3 ≤ 3 + d; omega), e, Array.getElem?_ofFn, dif_pos hd]
  · rw [if_neg hi]
    by_cases h3 : i < 3
    · rw [Array.getElem?_append_left (by show i < 3; omega), Array.getElem?_append_left (by show i < 3; omega)]
    · have e : i - (#[self, tree, .int .i64 n] : Array Value).size = i - 3 := rfl
      rw [Array.getElem?_append_right (by show 3 ≤ i; omega), Array.getElem?_append_right (by show 3 ≤ i; omega), e, Array.getElem?_ofFn, Array.getElem?_ofFn]
      by_cases hlt : i - 3 < 256
      · rw [dif_pos hlt, dif_pos hlt, h1 (i - 3) hlt (by omega)]
      · rw [dif_neg hlt, dif_neg hlt]
theorem IxBlk.congr {w : World} {g n : Nat} {self tree : Value} {f f' : Nat → Nat} (h : IxBlk w g self tree n f) (h1 : ∀ d, d < 256 → f' d = f d) : IxBlk w g self tree n f' := by
  unfold IxBlk at h ⊢
  rw [h]
  have : (fun d : Fin 256 => Value.int .i64 (f d.val : Nat)) = fun d : Fin 256 => Value.int .i64 (f' d.val : Nat) := by funext d; rw [h1 d.val d.isLt]
  rw [this]
theorem IxBlk.keep {w w' : World} {g n : Nat} {self tree : Value} {f : Nat → Nat} (h : IxBlk w g self tree n f) (hb : Below w.heap.size w w') : IxBlk w' g self tree n f := (hb.block g (Array.getElem?_eq_some_iff.1 h).1).trans h
theorem IxBlk.lt {w : World} {g n : Nat} {self tree : Value} {f : Nat → Nat} (h : IxBlk w g self tree n f) : g < w.heap.size := (Array.getElem?_eq_some_iff.1 h).1
theorem ix_new (w : World) (n : Nat) (tree : Value) : IxBlk (w.alloc (.cells (((Try.zeroCells51.setIfInBounds 1 tree).setIfInBounds 2 (.int .i64 n)).setIfInBounds 0 (.pointer (some ⟨w.heap.size, 0, none⟩))) 51)) w.heap.size (.pointer (some ⟨w.heap.size, 0, none⟩)) tree n (fun _ => 0) := by
  have h := heap_alloc_new w (.cells (((Try.zeroCells51.setIfInBounds 1 tree).setIfInBounds 2 (.int .i64 n)).setIfInBounds 0 (.pointer (some ⟨w.heap.size, 0, none⟩))) 51)
  unfold IxBlk
  rw [h, zero_ix, Array.setIfInBounds_append_left (by simp), Array.setIfInBounds_append_left (by simp), Array.setIfInBounds_append_left (by simp)]
  rfl
/-- how many bytes are less than a number -/
def belN (S : Bs) (d : Nat) : Nat := S.countP fun x => decide (x.toNat < d)
theorem belN_take {S : Bs} {i : Nat} (h : i < S.length) (d : Nat) : belN (S.take (i + 1)) d = belN (S.take i) d + (if S[i].toNat < d then 1 else 0) := by
  unfold belN
  rw [List.take_succ_eq_append_getElem h, List.countP_append]
  simp [List.countP_cons]
theorem belN_le (S : Bs) (d : Nat) : belN S d ≤ S.length := List.countP_le_length
#print axioms ix_new
#print axioms IxBlk.set
/-- an Index of a label -/
def Made (B : Nat) (w : World) (v : Value) (l : Bs) : Prop := ∃ g tv, v = .pointer (some ⟨g, 0, none⟩) ∧ B ≤ g ∧ IxBlk w g (.pointer (some ⟨g, 0, none⟩)) tv (l.length + 1) (belN (tr l)) ∧ Node B w (lets (tr l)) (tr l) tv
def MadePost (l : Bs) (w : World) (e : Ending) (w' : World) : Prop := ∃ v, e = .returned (.tuple #[v, .int .i64 0]) ∧ Made w.heap.size w' v l ∧ Below w.heap.size w w'
set_option maxHeartbeats 4000000 in
set_option maxRecDepth 100000 in
theorem newE_any {s : ByteArray} (h : Lab (bs s)) (w : World) :
    Calls Try.prog 33 #[.string s] w (MadePost (bs s) w) := by
  have hs := lab_size h
  have H := Lib.hid (isLabel_b s (by omega) true (decide_eq_true h))
  have H2 := Lib.hid (transform_any s (by omega))
  clear h
  go_enter Try.func33, Try.ntmps33
  go_wp2_with fail
  refine (H.out _).mono ?_
  rintro e w1 ⟨rfl, rfl⟩
  go_wp2_with fail
  refine (H2.out _).mono ?_
  rintro e w1 ⟨rfl, hb⟩
  have Hb := Lib.hid hb
  clear hb
  obtain ⟨S, hS⟩ : ∃ S : ByteArray, strV (tr (bs s)) = .string S := ⟨_, rfl⟩
  rw [hS]
  have HS := Lib.hid hS
  clear hS
  go_wp2_with fail
  rw [run_bytes_of_string w1 9 53 5 S Try.underlying9 Try.underlying53 Try.underlying5]
  simp only [Result.andThen]
  rw [Oper.upon_value]
  have hcap := grownCap_ge w1 S.size 0 5
  obtain ⟨cap, hcp⟩ : ∃ cap, cap = grownCap w1 S.size 0 5 := ⟨_, rfl⟩
  rw [← hcp] at hcap ⊢
  have hSb : bs S = tr (bs s) := by have := HS.out; unfold strV at this; injection this with this; rw [← this]; rfl
  have hSl : S.size = s.size + 1 := by rw [← bs_len, hSb, tr_length, bs_len]
  obtain ⟨w2, hw2⟩ : ∃ w2, w2 = w1.drew.alloc (.cells (bytesRow S cap) 5 ((bytesRow S cap).size, (bytesRow S cap).size + 1)) := ⟨_, rfl⟩
  have hby : Byts w2 (.slice (some ⟨w1.heap.size, 0, none⟩) S.size cap) (bs S) := by rw [hw2]; exact byts_of (w := w1.drew) cap hcap (by omega) _
  have HB2 := Lib.hid (show Below w.heap.size w w2 from Below.tr Hb.out (by rw [hw2]; exact Below.tr (bdrewN (Below.refl _ _) 1) (below_alloc _ _)))
  rw [← hw2]
  clear hw2 hcp
  obtain ⟨b1, hb1⟩ : ∃ b1, b1 = w1.heap.size := ⟨_, rfl⟩
  rw [← hb1] at hby ⊢
  have HBy := Lib.hid hby
  obtain ⟨n, hn⟩ : ∃ n, n = S.size := ⟨_, rfl⟩
  rw [← hn]
  have hlt := letters_any2 (bs S) b1 0 cap w2 (by rw [bs_len]; omega) (by
    obtain ⟨a', b', off', cap', hv, _, ha, hc⟩ := hby.get
    rw [bs_len] at ha
    rw [ha (by omega)] at hv
    injection hv with hv
    injection hv with hv
    injection hv with e1 e2 _
    intro i hi
    rw [e1, e2]; exact hc i hi)
  rw [bs_len, ← hn] at hlt
  have HLt := Lib.hid hlt
  have HN := Lib.hid hn
  have hn1 : n ≤ 201 := by omega
  clear hby hlt hn hSl hcap hb1
  go_wp2_with fail
  refine HLt.out.mono ?_
  rintro e w3 ⟨v3, rfl, ho3, hb3⟩
  have hN3 := newNode_any ((lets (bs S)).length + 1) (lets (bs S)) (bs S) (.slice (some ⟨b1, 0, none⟩) n cap) v3 w3 (by omega) (lets_le _) (by rw [bs_len, ← HN.out]; omega) (by have := HBy.out.keep hb3; rwa [← HN.out] at this) ho3.byts
  have HN3 := Lib.hid hN3
  have HB3 := Lib.hid (Below.tr HB2.out hb3)
  have HBy3 := Lib.hid (HBy.out.keep hb3)
  clear hN3 ho3 hb3
  go_wp2_with fail
  refine HN3.out.mono ?_
  rintro e w4 ⟨v4, rfl, hn4, hb4⟩
  obtain ⟨g4, rfl⟩ := hn4.ptr
  have HB4 := Lib.hid (Below.tr HB3.out hb4)
  have HBy4 := Lib.hid (HBy3.out.keep hb4)
  have HN4 := Lib.hid (hn4.base HB3.out.size)
  clear hn4 hb4
  have hn0 : 0 < n := by rw [HN.out, ← bs_len, hSb, tr_length]; omega
  have HCl4 := Lib.hid (show ∀ i (h : i < n), w4.cell? ⟨b1, i, none⟩ = some (.int .u8 ((bs S)[i]'(by rw [bs_len, ← HN.out]; exact h)).toNat) from by
    obtain ⟨a', b', off', cap', hv, _, ha, hc⟩ := HBy4.out.get
    rw [bs_len] at ha
    rw [ha (by rw [← HN.out]; exact hn0)] at hv
    injection hv with hv
    injection hv with hv
    injection hv with e1 e2 _
    intro i hi
    have := hc i (by rw [bs_len, ← HN.out]; exact hi)
    rw [← e1, ← e2, Nat.zero_add] at this
    exact this)
  have HIx1 := Lib.hid (show ∀ i, i < n → ∀ w, Sem.run Try.prog (Instr.indexAt 53 (.slice (some ⟨b1, 0, none⟩) n cap) (.int .i64 i)) w = .ok (.pointer (some ⟨b1, i, none⟩)) w from fun i hi w => by
    have := run_ix (P := Try.prog) (t := 53) (a := some ⟨b1, 0, none⟩) (len := n) (cap := cap) (b := b1) (off := 0) (s := 1) Try.underlying53 (by intro w; kernel_rfl) (fun _ => rfl) i w hi
    simpa only [Nat.mul_one, Nat.zero_add] using this)
  go_wp2_with fail
  obtain ⟨g, hg⟩ : ∃ g, g = w4.heap.size := ⟨_, rfl⟩
  have hix := ix_new w4 n (.pointer (some ⟨g4, 0, none⟩))
  rw [← hg] at hix ⊢
  have HB5 := Lib.hid (Below.tr HB4.out (below_alloc w4 (.cells (((Try.zeroCells51.setIfInBounds 1 (.pointer (some ⟨g4, 0, none⟩))).setIfInBounds 2 (.int .i64 n)).setIfInBounds 0 (.pointer (some ⟨g, 0, none⟩))) 51)))
  have HBy5 := Lib.hid (HBy4.out.keep (below_alloc w4 (.cells (((Try.zeroCells51.setIfInBounds 1 (.pointer (some ⟨g4, 0, none⟩))).setIfInBounds 2 (.int .i64 n)).setIfInBounds 0 (.pointer (some ⟨g, 0, none⟩))) 51)))
  have HIx := Lib.hid hix
  have HB45 := Lib.hid (show Below g w4 (w4.alloc (.cells (((Try.zeroCells51.setIfInBounds 1 (.pointer (some ⟨g4, 0, none⟩))).setIfInBounds 2 (.int .i64 n)).setIfInBounds 0 (.pointer (some ⟨g, 0, none⟩))) 51)) from by rw [hg]; exact below_alloc _ _)
  have HGs := Lib.hid hg
  have HLt1 := Lib.hid (show b1 < g from by
    rw [hg]
    have := HCl4.out 0 (by omega)
    exact cell_lt this)
  have HCell := Lib.hid (show ∀ i (h : i < n), (w4.alloc (.cells (((Try.zeroCells51.setIfInBounds 1 (.pointer (some ⟨g4, 0, none⟩))).setIfInBounds 2 (.int .i64 n)).setIfInBounds 0 (.pointer (some ⟨g, 0, none⟩))) 51)).cell? ⟨b1, i, none⟩ = some (.int .u8 ((bs S)[i]'(by rw [bs_len, ← HN.out]; exact h)).toNat) from fun i h => Below.keep (below_alloc w4 _) (HCl4.out i h))
  generalize w4.alloc (.cells (((Try.zeroCells51.setIfInBounds 1 (.pointer (some ⟨g4, 0, none⟩))).setIfInBounds 2 (.int .i64 n)).setIfInBounds 0 (.pointer (some ⟨g, 0, none⟩))) 51) = w5 at *
  have hgw : w.heap.size ≤ g := by rw [hg]; exact HB4.out.size
  clear hix
  have HIx0 := Lib.hid (show IxBlk w5 g (.pointer (some ⟨g, 0, none⟩)) (.pointer (some ⟨g4, 0, none⟩)) n (belN ((bs S).take 0)) from by
    have e : belN ((bs S).take 0) = fun _ => 0 := by funext d; simp [belN]
    rw [e]; exact HIx.out)
  clear hg
  go_loopw [29] (fun vi wr => ∃ i : Nat, vi = .int .i64 i ∧ i ≤ n ∧ Below g w5 wr ∧ IxBlk wr g (.pointer (some ⟨g, 0, none⟩)) (.pointer (some ⟨g4, 0, none⟩)) n (belN ((bs S).take i))) (fun vi _ => n - (intOf vi).toNat)
  case atStart => exact ⟨0, rfl, Nat.zero_le _, Below.refl _ _, HIx0.out⟩
  case round =>
    obtain ⟨i, rfl, hi, hbe, hix⟩ := hrel
    have HBe := Lib.hid hbe
    have HI := Lib.hid hix
    clear hbe hix
    by_cases hlt : i < n
    · have hiS : i < (bs S).length := by rw [bs_len, ← HN.out]; exact hlt
      obtain ⟨c, hc⟩ : ∃ c, c = (bs S)[i] := ⟨_, rfl⟩
      have hrow : wr.cell? ⟨b1, i, none⟩ = some (.int .u8 c.toNat) := by
        rw [hc]
        have h1 := HCell.out i hlt
        have hb : (⟨b1, i, none⟩ : Addr).block < g := HLt1.out
        rw [HBe.out.cell hb]
        exact h1
      have hix1 := HIx1.out i hlt
      have HC := Lib.hid hc
      clear hc
      have hc1 := c.toNat_lt
      have HIn := Lib.hid (show IxBlk wr g (.pointer (some ⟨g, 0, none⟩)) (.pointer (some ⟨g4, 0, none⟩)) n (fun d => belN ((bs S).take i) d + (if c.toNat < d ∧ d < c.toNat + 1 then 1 else 0)) from HI.out.congr fun d _ => by rw [if_neg (by omega), Nat.add_zero])
      have hc2 : c.toNat < 256 := hc1
      clear hc1
      go_wp2_with fail
      go_loopw [8] (fun vd wr => ∃ D : Nat, vd = .int .i64 D ∧ c.toNat < D ∧ D ≤ 256 ∧ Below g w5 wr ∧ IxBlk wr g (.pointer (some ⟨g, 0, none⟩)) (.pointer (some ⟨g4, 0, none⟩)) n (fun d => belN ((bs S).take i) d + (if c.toNat < d ∧ d < D then 1 else 0))) (fun vd _ => 256 - (intOf vd).toNat)
      case atStart => exact ⟨c.toNat + 1, by go_num, by omega, by omega, HBe.out, HIn.out⟩
      case round =>
        clear HIn HI HBe hrow
        obtain ⟨D, rfl, hcD, hD, hbe, hix⟩ := hrel
        have HBe := Lib.hid hbe
        have HI := Lib.hid hix
        by_cases hlD : D < 256
        · have hlDz : (D : Int) < 256 := by omega
          have hcell := hix.cell hlD
          rw [if_neg (by omega), Nat.add_zero] at hcell
          have hfz := hix.frozen (3 + D)
          obtain ⟨F, hF⟩ : ∃ F, F = belN ((bs S).take i) D := ⟨_, rfl⟩
          rw [← hF] at hcell
          have hFle : F ≤ 201 := by
            rw [hF]
            have := belN_le ((bs S).take i) D
            rw [List.length_take] at this
            omega
          have hst := hix.set (f' := fun d => belN ((bs S).take i) d + (if c.toNat < d ∧ d < D + 1 then 1 else 0)) hlD (fun e he hne => by
            by_cases h1 : c.toNat < e ∧ e < D
            · rw [if_pos h1, if_pos (by omega)]
            · rw [if_neg h1, if_neg (by omega)])
          rw [if_pos (by omega), ← hF] at hst
          have HSt := Lib.hid hst
          have hFz : IntKind.i64.wrap ((F : Int) + 1) = ((F + 1 : Nat) : Int) := by rw [IntWalk.i64_in _ ⟨by omega, by omega⟩]; omega
          clear hbe hix hF hst
          go_wp2_with fail
          go_region
          all_goals go_wp2_with fail
          go_roundw
          case rel => exact ⟨D + 1, by go_num, by omega, by omega, bdrewN (HBe.out.setCell (p := ⟨g, 3 + D, none⟩) (Nat.le_refl _) _) 1, HSt.out⟩
          case measure => simp [intOf] <;> omega
        · obtain rfl : D = 256 := by omega
          have HF := Lib.hid (show IxBlk wr g (.pointer (some ⟨g, 0, none⟩)) (.pointer (some ⟨g4, 0, none⟩)) n (belN ((bs S).take (i + 1))) from hix.congr fun d hd => by
            rw [belN_take hiS, ← HC.out]
            by_cases h1 : c.toNat < d
            · rw [if_pos h1, if_pos ⟨h1, hd⟩]
            · rw [if_neg h1, if_neg (fun h => h1 h.1)])
          clear hbe hix
          go_wp2_with fail
          go_roundw
          case rel => exact ⟨i + 1, by go_num, by omega, HBe.out, HF.out⟩
          case measure => simp [intOf] <;> omega
    · obtain rfl : i = n := by omega
      have htk : (bs S).take i = bs S := List.take_of_length_le (by rw [bs_len, ← HN.out]; exact Nat.le_refl _)
      have hfin := HI.out
      have hnl : i = (bs s).length + 1 := by rw [HN.out, ← bs_len, hSb, tr_length]
      rw [htk, hSb, hnl] at hfin
      have hnd := HN4.out.from (w' := wr) fun q h1 h2 => (HBe.out.block q (by rw [HGs.out]; exact h2)).trans (HB45.out.block q (by rw [HGs.out]; exact h2))
      rw [hSb] at hnd
      have HFin := Lib.hid hfin
      have HNd := Lib.hid hnd
      clear hfin hnd htk hnl
      go_wp2_with fail
      go_ret2
      exact ⟨_, rfl, ⟨g, _, rfl, hgw, HFin.out, HNd.out⟩, HB5.out.trans (HBe.out.mono hgw)⟩
#print axioms newE_any
end Go.Proofs.Ytbnlkmblkokooaa

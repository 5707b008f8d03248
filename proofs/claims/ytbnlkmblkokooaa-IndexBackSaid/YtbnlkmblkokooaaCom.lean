/- Contracts of Sort, Common, awake, common. -/
import Derived.Test.YtbnlkmblkokooaaSa
import Derived.Deep.RegionHeld3
namespace Go.Proofs.Ytbnlkmblkokooaa
open Go.RowKit

theorem sortE_bad {s : ByteArray} (hs : s.size ≤ 1000) (h : ¬ Lab (bs s)) (w : World) :
    Calls Try.prog 19 #[.string s] w fun e w' => e = .returned (.tuple #[.slice none 0 0, .int .i64 2]) ∧ w = w' := by
  have H := Lib.hid (isLabel_b s hs false (decide_eq_false h) w)
  clear h
  go_enter Try.func19, Try.ntmps19
  go_wp2_with fail
  refine H.out.mono ?_
  rintro e w1 ⟨rfl, rfl⟩
  go_wp2_with fail
  go_ret2
  exact ⟨rfl, rfl⟩
def SaPost (s : ByteArray) (w : World) (e : Ending) (w' : World) : Prop := ∃ v', e = .returned (.tuple #[v', .int .i64 0]) ∧ OwnInts w.heap.size w' v' (castN (sa (bs s))) ∧ Below w.heap.size w w'
theorem sortE_any {s : ByteArray} (h : Lab (bs s)) (w : World) :
    Calls Try.prog 19 #[.string s] w (SaPost s w) := by
  have hs : s.size ≤ 1000 := by have := h.1; rw [bs_len] at this; omega
  have H := Lib.hid (isLabel_b s hs true (decide_eq_true h) w)
  have H2 := Lib.hid (suffixes_any s hs w)
  clear h
  go_enter Try.func19, Try.ntmps19
  go_wp2_with fail
  refine H.out.mono ?_
  rintro e w1 ⟨rfl, rfl⟩
  go_wp2_with fail
  refine H2.out.mono ?_
  rintro e w2 ⟨v2, rfl, ho, hb⟩
  have Ho := Lib.hid ho
  have Hb := Lib.hid hb
  clear ho hb H H2
  go_wp2_with fail
  go_ret2
  exact ⟨_, rfl, Ho.out, Hb.out⟩
theorem abab_lab : Lab (bs ⟨#[97, 98, 97, 98]⟩) := by decide
theorem abab_sa : sa (bs ⟨#[97, 98, 97, 98]⟩) = [4, 2, 0, 3, 1] := by decide
theorem awake_any (w : World) : Calls Try.prog 22 #[] w fun e w' => e = .returned (.bool true) ∧ Below w.heap.size w w' := by
  have H := Lib.hid (sortE_any abab_lab w)
  go_enter Try.func22, Try.ntmps22
  go_wp2_with fail
  refine H.out.mono ?_
  rintro e w1 ⟨v1, rfl, ho, hb⟩
  rw [abab_sa] at ho
  have Ho := Lib.hid ho
  have Hb := Lib.hid hb
  clear ho hb H
  go_wp2_with fail
  have hl : Ints (w1.alloc (.cells #[.int .i64 4, .int .i64 2, .int .i64 0, .int .i64 3, .int .i64 1] 3)) (.slice (some ⟨w1.heap.size, 0, none⟩) 5 5) (castN [4, 2, 0, 3, 1]) := rd_new w1 #[.int .i64 4, .int .i64 2, .int .i64 0, .int .i64 3, .int .i64 1] 3 1 5 rfl (by unfold maxLen; omega)
  have HE := Lib.hid (equal_yes (x := castN [4, 2, 0, 3, 1]) (y := castN [4, 2, 0, 3, 1]) rfl v1 _ _ (Ints.keep (OwnInts.ints Ho.out) (below_alloc w1 (.cells #[.int .i64 4, .int .i64 2, .int .i64 0, .int .i64 3, .int .i64 1] 3))) hl)
  clear hl
  refine HE.out.mono ?_
  rintro e w2 ⟨rfl, hb2⟩
  have Hb2 := Lib.hid (Below.tr (Below.tr Hb.out (below_alloc _ _)) hb2)
  clear hb2
  go_wp2_with fail
  go_ret
  exact ⟨rfl, Hb2.out⟩

/-! ### a row that is filled from the front -/
def fRow (f : Nat → Int) (n j : Nat) : List Int := (List.range n).map fun i => if i < j then f i else 0
theorem fRow_length (f : Nat → Int) (n j : Nat) : (fRow f n j).length = n := by simp [fRow]
theorem fRow_zero (f : Nat → Int) (n : Nat) : fRow f n 0 = List.replicate n 0 := by
  apply List.ext_getElem (by simp [fRow])
  intro i h1 h2
  simp [fRow]
theorem fRow_full (f : Nat → Int) (n : Nat) : fRow f n n = (List.range n).map f := by
  apply List.ext_getElem (by simp [fRow])
  intro i h1 h2
  simp only [fRow_length] at h1
  simp [fRow, h1]
theorem fRow_set (f : Nat → Int) (n j : Nat) : (fRow f n j).set j (f j) = fRow f n (j + 1) := by
  apply List.ext_getElem (by simp [fRow])
  intro i h1 h2
  simp only [List.length_set, fRow_length] at h1
  rw [List.getElem_set]
  by_cases e : j = i
  · subst e; simp [fRow]
  · rw [if_neg e]
    simp only [fRow, List.getElem_map, List.getElem_range]
    by_cases e2 : i < j
    · rw [if_pos e2, if_pos (by omega)]
    · rw [if_neg e2, if_neg (by omega)]
def FRow (f : Nat → Int) (w : World) (base blk n j : Nat) : Prop := w.ownsRow base 3 1 (.slice (some ⟨blk, 0, none⟩) n n) n ((fRow f n j).map (Value.int .i64))
theorem makeInts_fRow (f : Nat → Int) {base n : Nat} {w3 : World} {B : Nat} (hown : w3.ownsRow base 3 1 (.slice (some ⟨B, 0, none⟩) n n) n (madeCells (Value.int IntKind.i64 0).cells (n * 1)).toList) : FRow f w3 base B n 0 := by
  have e : (madeCells (Value.int IntKind.i64 0).cells (n * 1)).toList = (fRow f n 0).map (Value.int .i64) := by
    rw [Nat.mul_one, fRow_zero]
    show (madeCells #[Value.int .i64 0] n).toList = _
    rw [toList_madeCells_one, List.map_replicate]
  rw [e] at hown
  exact hown
theorem FRow.own {f : Nat → Int} {w : World} {base blk n : Nat} (h : FRow f w base blk n n) : OwnInts base w (.slice (some ⟨blk, 0, none⟩) n n) ((List.range n).map f) := by
  unfold FRow at h
  rw [fRow_full] at h
  unfold OwnInts
  simp only [List.length_map, List.length_range]
  exact h
theorem owns_drewN {w : World} {base : Nat} {e : TypeId} {size : Nat} {v : Value} {n : Nat} {xs : List Value} (h : w.ownsRow base e size v n xs) (q : Nat) : (w.drewN q).ownsRow base e size v n xs := h
/-- common -/
theorem com_cast (l : Bs) : (List.range l.length).map (fun i => (comAt l i : Int)) = castN (com l) := by simp [castN, com]
set_option maxRecDepth 100000 in
set_option maxHeartbeats 4000000 in
theorem common_any (s : ByteArray) (hs : s.size ≤ 1000) (w : World) :
    Calls Try.prog 55 #[.string s] w fun e w' => ∃ v', e = .returned v' ∧ OwnInts w.heap.size w' v' (castN (com (bs s))) ∧ Below w.heap.size w w' := by
  obtain ⟨i0, hi, hz0, hz1, hz2⟩ := infoInt'
  obtain ⟨n, hn⟩ : ∃ n, n = s.size := ⟨_, rfl⟩
  have HN := Lib.hid hn
  have hn1 : n ≤ 1000 := by omega
  have Hi := Lib.hid hi
  have Hz0 := Lib.hid hz0
  have Hz1 := Lib.hid hz1
  have Hby := Lib.hid (show i0.bytes * n ≤ 281474976710656 by rw [hz2]; omega)
  have HS := Lib.hid (suffixes_any s hs w)
  obtain ⟨L, hL⟩ : ∃ L, L = bs s := ⟨_, rfl⟩
  have HL := Lib.hid hL
  have HLn := Lib.hid (show L.length = n by rw [hL, bs_len, hn])
  rw [← hL]
  clear hi hz0 hz1 hz2 hn hL
  go_enter Try.func55, Try.ntmps55
  go_wp2_with fail
  refine HS.out.mono ?_
  rintro e w1 ⟨v1, rfl, ho1, hb1⟩
  rw [← HL.out] at ho1
  obtain ⟨a1, b1, off1, cap1, rfl, hle1, ha1, hc1⟩ := Ints.nats (OwnInts.ints ho1)
  have hsl : (sa L).length = n + 1 := by rw [sa_length, HLn.out]
  rw [hsl] at ha1 hc1 hle1 ⊢
  have hix1 := run_ix (P := Try.prog) (t := 23) (a := a1) (len := n + 1) (cap := cap1) (b := b1) (off := off1) (s := 1) Try.underlying23 (by intro w; kernel_rfl) ha1
  simp only [Nat.mul_one] at hix1
  have Hix1 := Lib.hid hix1
  have Hc1 := Lib.hid (show ∀ i, i < n + 1 → w1.cell? ⟨b1, off1 + i, none⟩ = some (.int .i64 (saAt L i : Nat)) from hc1)
  have Hb1 := Lib.hid hb1
  clear ho1 ha1 hc1 hsl hix1 hb1
  have hszn : (s.size : Int) = (n : Int) := by rw [HN.out]
  go_wp2_with (refine wpList_make_full _ rfl (.tmp 9) (.tmp 9) 23 rfl w1.heap.size 3 i0 (.int .i64 0) 1 Try.underlying23 Hi.out Hz0.out Hz1.out .i64 .i64 _ _ n rfl rfl rfl rfl Hby.out (by unfold maxLen; omega) (Nat.le_refl _) ?_; intro w3 hown hg)
  have Hrow := Lib.hid (makeInts_fRow (fun i => (comAt L i : Int)) hown)
  have Hb3 := Lib.hid (show Below w1.heap.size w1 w3 from ⟨hg.os, hg.tape, hg.output, hg.size, fun k hk => hg.block k hk (by simp)⟩)
  have hix' := run_ix (P := Try.prog) (t := 23) (a := some ⟨w1.heap.size, 0, none⟩) (len := n) (cap := n) (b := w1.heap.size) (off := 0) (s := 1) Try.underlying23 (by intro w; kernel_rfl) (fun _ => rfl)
  simp only [Nat.mul_one, Nat.zero_add] at hix'
  have Hix' := Lib.hid hix'
  clear hown hg hix' hszn
  go_wp2_with fail
  go_loopw [13] (fun i wr => ∃ j : Nat, i = .int .i64 j ∧ j ≤ n ∧ Below w1.heap.size w1 wr ∧ FRow (fun i => (comAt L i : Int)) wr w1.heap.size w1.heap.size n j) (fun i _ => n - (intOf i).toNat)
  case atStart => exact ⟨0, rfl, Nat.zero_le _, Hb3.out, Hrow.out⟩
  case round =>
    obtain ⟨j, rfl, hj, hb', hown'⟩ := hrel
    have Hb' := Lib.hid hb'
    have Hown' := Lib.hid hown'
    clear hb' hown'
    by_cases hltj : j < n
    · have hixj := Hix1.out j
      have hixj1 : ∀ w, j + 1 < n + 1 → (Instr.indexAt 23 (.slice a1 (n + 1) cap1) (.int .i64 ((j : Int) + 1))).run Try.prog w = .ok (.pointer (some ⟨b1, off1 + (j + 1), none⟩)) w := fun w h => by have := Hix1.out (j + 1) w h; simpa using this
      have hixr := Hix'.out j
      have hwj : IntKind.i64.wrap ((j : Int) + 1) = (j : Int) + 1 := IntWalk.i64_in _ ⟨by omega, by omega⟩
      have hc1 := Below.keep Hb'.out (Hc1.out j (by omega))
      have hc2 := Below.keep Hb'.out (Hc1.out (j + 1) (by omega))
      obtain ⟨x, hx⟩ : ∃ x, x = saAt L j := ⟨_, rfl⟩
      obtain ⟨y, hy⟩ : ∃ y, y = saAt L (j + 1) := ⟨_, rfl⟩
      have hxs : x ≤ s.size := by have := saAt_le L j; have := HLn.out; have := HN.out; omega
      have hys : y ≤ s.size := by have := saAt_le L (j + 1); have := HLn.out; have := HN.out; omega
      have HA := Lib.hid (show ∀ W, Calls Try.prog 79 #[.string (s.extract x s.size), .string (s.extract y s.size)] W fun e w' => e = .returned (.int .i64 (comAt L j : Nat)) ∧ ∃ q, w' = W.drewN q from fun W => by
        have h := agreement_any (s.extract x s.size) (s.extract y s.size) (by rw [ByteArray.size_extract]; omega) W
        rw [bs_drop, bs_drop, ← HL.out, hx, hy] at h
        rw [hx, hy]
        exact h)
      rw [← hx] at hc1
      rw [← hy] at hc2
      clear hx hy
      have Hlt := Lib.hid (show b1 < w1.heap.size from cell_lt (Hc1.out j (by omega)))
      have hfz := World.ownsRow.frozenAt Hown'.out j
      have hcell := World.ownsRow.cellAt Hown'.out j (by omega)
      rw [List.getElem?_map, List.getElem?_eq_getElem (by rw [fRow_length]; exact hltj), Option.map_some] at hcell
      go_wp2_with fail
      go_upto_region 6 with fail
      go_region_held3 (fun w' => w'.cell? ⟨b1, off1 + j, none⟩ = some (.int .i64 (x : Nat)) ∧ w'.cell? ⟨b1, off1 + (j + 1), none⟩ = some (.int .i64 (y : Nat)))
        (first | exact ⟨hc1, hc2⟩ | exact ⟨(((Below.refl w1.heap.size _).setCell (Nat.le_refl _) _).cell Hlt.out).trans hc1, (((Below.refl w1.heap.size _).setCell (Nat.le_refl _) _).cell Hlt.out).trans hc2⟩)
        (first | (go_at_call 79; refine (HA.out _).mono ?_; rintro e w' ⟨rfl, q, rfl⟩))
      have hst := (World.ownsRow.stored (owns_drewN Hown'.out (1 + q)) j (.int .i64 (comAt L j : Nat)))
      have HR := Lib.hid (show FRow (fun i => (comAt L i : Int)) ((wr.drewN (1 + q)).setCell ⟨w1.heap.size, j, none⟩ (.int .i64 (comAt L j : Nat))) w1.heap.size w1.heap.size n (j + 1) by unfold FRow; rw [← fRow_set, List.map_set]; exact hst.1)
      clear hst hfz hcell hc1 hc2 hixj hixj1 hixr hwj
      go_wp2_with fail
      go_roundw
      case rel => exact ⟨j + 1, by go_num, by omega, (bdrewN Hb'.out _).setCell (Nat.le_refl _) _, HR.out⟩
      case measure => simp [intOf]; omega
    · obtain rfl : j = n := by omega
      have HO := Lib.hid (OwnInts.base (FRow.own Hown'.out) (base' := w.heap.size) (Hb1.out.size))
      go_wp2_with fail
      go_ret
      exact ⟨_, rfl, by
        have := HO.out
        rw [← HLn.out, com_cast, HLn.out] at this
        exact this, Below.tr Hb1.out Hb'.out⟩
end Go.Proofs.Ytbnlkmblkokooaa

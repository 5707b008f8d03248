/- slices.Reverse of bytes, and turned. -/
import Derived.Test.YtbnlkmblkokooaaIdx
import Derived.Test.YtbnlkmblkokooaaLng
namespace Go.Proofs.Ytbnlkmblkokooaa
open Go.RowKit
open Go.Sort (swp swp_get swp_size)
set_option maxHeartbeats 2000000 in
set_option maxRecDepth 100000 in
theorem rev_0 (A : Option Addr) (cap : Nat) (w : World) :
    Calls Try.prog 74 #[.slice A 0 cap] w fun e w' => e = .returned (.tuple #[]) ∧ w = w' := by
  go_enter Try.func74, Try.ntmps74
  go_wp2
  go_loopw [2, 3] (fun vi vj wr => vi = .int .i64 0 ∧ vj = .int .i64 (-1) ∧ wr = w) (fun _ _ _ => 0)
  case atStart => exact ⟨rfl, rfl, rfl⟩
  case round =>
    obtain ⟨rfl, rfl, hw⟩ := hrel
    subst hw
    go_wp2
    go_end0
    exact ⟨rfl, rfl⟩
#print axioms rev_0
set_option maxHeartbeats 2000000 in
set_option maxRecDepth 100000 in
theorem rev_row (blk off cap : Nat) (d : Array Int) (w : World) (hR : RowAt w blk off d) (h0 : 0 < d.size) :
    Calls Try.prog 74 #[.slice (some ⟨blk, off, none⟩) d.size cap] w fun e w' => e = .returned (.tuple #[]) ∧ ∃ d', Rw w blk off d' w' ∧ d'.size = d.size ∧ ∀ t, t < d.size → d'[t]! = d[d.size - 1 - t]! := by
  obtain ⟨N, hN⟩ : ∃ N, N = d.size := ⟨_, rfl⟩
  have HR := Lib.hid hR
  have HN := Lib.hid hN
  have hN1 : N < 1000000 := by rw [hN]; exact hR.2.2
  rw [← hN] at h0
  rw [← hN]
  clear hR hN
  go_enter Try.func74, Try.ntmps74
  go_wp2
  go_loopw [2, 3] (fun vi vj wr => ∃ (i : Nat) (dk : Array Int), vi = .int .i64 i ∧ vj = .int .i64 ((N : Int) - 1 - (i : Int)) ∧ 2 * i ≤ N ∧ Rw w blk off dk wr ∧ dk.size = N ∧ ∀ t, t < N → dk[t]! = if t < i ∨ N ≤ t + i then d[N - 1 - t]! else d[t]!) (fun vi _ _ => N - (intOf vi).toNat)
  case atStart => exact ⟨0, d, rfl, by go_num, by omega, Rw.start HR.out, HN.out.symm, fun t ht => by rw [if_neg (by omega)]⟩
  case round =>
    obtain ⟨i, dk, rfl, rfl, hi, hrw, hsz, hin⟩ := hrel
    obtain ⟨G, hG⟩ : ∃ G : Nat → Int, ∀ t, G t = dk[t]! := ⟨fun t => dk[t]!, fun _ => rfl⟩
    have hrow := Rw.row HR.out hrw (by rw [hsz]; exact HN.out)
    have hcw : ∀ t, t < N → wr.cell? ⟨blk, off + t, none⟩ = some (.int .u8 (G t)) := fun t ht => by rw [hG]; exact hrow.cell (by omega)
    have hfw : ∀ t, t < N → wr.frozen? ⟨blk, off + t, none⟩ = false := fun t ht => hrow.frozen (by omega)
    have HW := Lib.hid hrw
    have HG := Lib.hid hG
    have HZ := Lib.hid hsz
    have HI := Lib.hid hin
    clear hrw hG hrow hsz hin
    by_cases hlt : 2 * i + 1 < N
    · obtain ⟨m, hm⟩ : ∃ m, m = N - 1 - i := ⟨_, rfl⟩
      have hjz : (N : Int) - 1 - (i : Int) = (m : Int) := by omega
      have hmN : m < N := by omega
      have him : i < m := by omega
      have hmi : m + i + 1 = N := by omega
      clear hm
      rw [hjz]
      go_wp2_with fail
      go_region
      all_goals go_wp2
      go_roundw
      case rel =>
        refine ⟨i + 1, swp dk i m, by go_num, by go_num, by omega, ?_, by rw [swp_size]; exact HZ.out, fun t ht => ?_⟩
        · have h := (Rw.swap HR.out HW.out (i := i) (j := m) (by rw [HZ.out]; omega) (by rw [HZ.out]; omega)).drew
          rw [← HG.out, ← HG.out] at h
          exact h
        · rw [swp_get dk (by rw [HZ.out]; omega) (by rw [HZ.out]; omega)]
          by_cases e1 : t = m
          · rw [if_pos e1, if_pos (by omega), HI.out i (by omega), if_neg (by omega)]
            congr 1; omega
          · rw [if_neg e1]
            by_cases e2 : t = i
            · rw [if_pos e2, if_pos (by omega), HI.out m (by omega), if_neg (by omega)]
              congr 1; omega
            · rw [if_neg e2, HI.out t ht]
              by_cases e3 : t < i ∨ N ≤ t + i
              · rw [if_pos e3, if_pos (by omega)]
              · rw [if_neg e3, if_neg (by omega)]
      case measure => simp [intOf] <;> omega
    · have hlz : ¬ ((i : Int) < (N : Int) - 1 - (i : Int)) := by omega
      go_wp2_with fail
      go_end0
      refine ⟨rfl, dk, HW.out, HZ.out, fun t ht => ?_⟩
      rw [HI.out t ht]
      by_cases e3 : t < i ∨ N ≤ t + i
      · rw [if_pos e3]
      · rw [if_neg e3]
        congr 1; omega
#print axioms rev_row
/-- the bytes of a string in a new block, as a row -/
theorem new_row (S : ByteArray) (cap : Nat) (w : World) (hs : S.size ≤ 1000) (fz : Nat × Nat) (hfz : S.size ≤ fz.1) :
    RowAt (w.alloc (.cells (bytesRow S cap) 5 fz)) w.heap.size 0 (castB (bs S)).toArray := by
  have hl : (castB (bs S)).toArray.size = S.size := by simp [castB, bs_len]
  refine ⟨fun j hj => ?_, by simp, by rw [hl]; omega⟩
  rw [hl] at hj
  have hn := heap_alloc_new w (.cells (bytesRow S cap) 5 fz)
  refine ⟨?_, ?_⟩
  · have h1 : j < (S.data.map (fun b => Value.int .u8 b.toNat)).size := by simpa using hj
    simp only [World.cell?, hn, Nat.zero_add]
    unfold bytesRow
    simp only [Option.isSome_none, Bool.false_eq_true, if_false]
    rw [Array.getElem?_append_left h1]
    have hj2 : j < S.data.size := hj
    simp [castB, bs, Array.getElem?_eq_getElem hj2]
  · obtain ⟨lo, hi⟩ := fz
    simp only [World.frozen?, hn]
    simp only at hfz
    simp
    omega
#print axioms new_row
theorem Rw.grownBy {w w' : World} {g : Nat} {d : Array Int} (h : Rw w g 0 d w') : w.grownBy w' (some g) := by
  obtain ⟨n, os, rfl⟩ := h
  refine ⟨rfl, rfl, rfl, by simp, fun q hq hne => ?_⟩
  rw [Go.Sort.heap_grow_old _ _ (by simpa using hq)]
  have : g ≠ q := fun e => hne (by rw [e])
  simp [Go.Sort.putRow, Go.Sort.mapBlock, Go.Sort.ahead, Array.getElem?_modify, this]
theorem row_byts {w : World} {g cap : Nat} {d : Array Int} {l : Bs} (h : RowAt w g 0 d) (hd : d.size = l.length) (hc : l.length ≤ cap) (hl : l.length ≤ 1000000) (he : ∀ j (hj : j < l.length), d[j]! = (l[j].toNat : Int)) : Byts w (.slice (some ⟨g, 0, none⟩) l.length cap) l := by
  refine ⟨by rw [bcells_len, Nat.mul_one], by unfold maxLen; omega, some ⟨g, 0, none⟩, g, 0, cap, rfl, ⟨fun _ => rfl, hc⟩, fun j hj => ?_⟩
  rw [bcells_len] at hj
  rw [h.cell (by omega), he j hj]
  simp [Lib.byteCells]
def RevPost (n g cap : Nat) (w0 : World) (s : ByteArray) (e : Ending) (w' : World) : Prop := e = .returned (.tuple #[]) ∧ Byts w' (.slice (some ⟨g, 0, none⟩) n cap) (bs s).reverse ∧ Below w0.heap.size w0 w'
theorem rev_new (s : ByteArray) (hs : s.size ≤ 1000) (cap g : Nat) (hcap : s.size ≤ cap) (w0 w : World) (hb : Below w0.heap.size w0 w) (hg : w0.heap.size ≤ g) (hR : RowAt w g 0 (castB (bs s)).toArray) :
    Calls Try.prog 74 #[.slice (some ⟨g, 0, none⟩) s.size cap] w (RevPost s.size g cap w0 s) := by
  have hl : (castB (bs s)).toArray.size = s.size := by simp [castB, bs_len]
  have hrl : (bs s).reverse.length = s.size := by rw [List.length_reverse, bs_len]
  by_cases h0 : s.size = 0
  · have hb0 : bs s = [] := List.eq_nil_of_length_eq_zero (by rw [bs_len]; exact h0)
    rw [h0]
    refine (rev_0 _ cap w).mono ?_
    rintro e w' ⟨rfl, rfl⟩
    refine ⟨rfl, ?_, hb⟩
    have := row_byts (cap := cap) (l := (bs s).reverse) hR (by rw [hl, hrl]) (by omega) (by omega) (fun j hj => by omega)
    rw [hrl, h0] at this
    exact this
  · have h := rev_row g 0 cap (castB (bs s)).toArray w hR (by omega)
    rw [hl] at h
    refine h.mono ?_
    rintro e w' ⟨rfl, d', hr, hds, hd⟩
    have hgr := hr.grownBy
    refine ⟨rfl, ?_, hb.trans ⟨hgr.os, hgr.tape, hgr.output, hgr.size, fun q hq => hgr.block q (by have := hb.size; omega) (by simp; omega)⟩⟩
    have := row_byts (cap := cap) (l := (bs s).reverse) (Rw.row hR hr (by rw [hds, hl])) (by rw [hds, hrl]) (by omega) (by omega) (fun j hj => by
      rw [hrl] at hj
      have hj2 : s.size - 1 - j < (castB (bs s)).toArray.size := by rw [hl]; omega
      rw [hd j hj, getElem!_pos (castB (bs s)).toArray (s.size - 1 - j) hj2, List.getElem_reverse]
      simp only [List.getElem_toArray, castB, List.getElem_map, bs_len])
    rw [hrl] at this
    exact this
#print axioms rev_new
set_option maxRecDepth 100000 in
set_option maxHeartbeats 2000000 in
theorem turned_any (s : ByteArray) (hs : s.size ≤ 1000) (w : World) :
    Calls Try.prog 52 #[.string s] w fun e w' => e = .returned (strV (bs s).reverse) ∧ Below w.heap.size w w' := by
  have HS := Lib.hid hs
  clear hs
  go_enter Try.func52, Try.ntmps52
  go_wp2_with fail
  rw [run_bytes_of_string w 9 53 5 s Try.underlying9 Try.underlying53 Try.underlying5]
  simp only [Result.andThen]
  rw [Oper.upon_value]
  have hcap := grownCap_ge w s.size 0 5
  obtain ⟨cap, hcp⟩ : ∃ cap, cap = grownCap w s.size 0 5 := ⟨_, rfl⟩
  rw [← hcp] at hcap ⊢
  have hR := new_row s cap w.drew HS.out ((bytesRow s cap).size, (bytesRow s cap).size + 1) (by unfold bytesRow; simp)
  have hb2 := Below.tr (bdrewN (Below.refl w.heap.size w) 1) (below_alloc w.drew (.cells (bytesRow s cap) 5 ((bytesRow s cap).size, (bytesRow s cap).size + 1)))
  have HRv := Lib.hid (rev_new s HS.out cap w.heap.size hcap w _ hb2 (Nat.le_refl _) hR)
  clear hR hb2 hcap hcp
  go_wp2_with fail
  refine HRv.out.mono ?_
  rintro e w3 ⟨rfl, hby, hb3⟩
  have hcv := conv_str hby
  have HB3 := Lib.hid hb3
  clear hby hb3 HRv
  go_wp2_with fail
  go_ret
  exact ⟨rfl, HB3.out⟩
#print axioms turned_any
end Go.Proofs.Ytbnlkmblkokooaa

/- The stable sort: rows of integers, the comparison, insertion, exchange, rotation. -/
import Derived.Test.YtbnlkmblkokooaaOwn
import Derived.Test.YtbnlkmblkokooaaSta
import Derived.Sort.Grow
import Derived.WalkKit
import Derived.BigGuard
import Derived.BigCall
import Derived.CellFam
import Derived.Deep.Draws
import Derived.Deep.QuietTactic
import Derived.BigQuiet
namespace Go.Proofs.Ytbnlkmblkokooaa
open Go.RowKit
open Go.Sort (PermIn SortedIn swp Ins SWO permIn_trans permIn_mono permIn_all permIn_refl swp_get swp_size swp_permIn)
/-- a row of integers -/
def RowN (w : World) (blk off : Nat) (d : Array Int) : Prop := Go.Sort.Holds (Value.int .i64) w blk off d ∧ blk < w.heap.size ∧ d.size < 1000000
def Rn (w0 : World) (blk off : Nat) (d : Array Int) (w : World) : Prop := ∃ n os, w = Go.Sort.grow (Go.Sort.putRow (Value.int .i64) (Go.Sort.ahead w0 n) blk off d) os
theorem Rn.start {w : World} {blk off : Nat} {d : Array Int} (h : RowN w blk off d) : Rn w blk off d w := ⟨0, #[], by
  rw [Go.Sort.grow_empty, Go.Sort.ahead_zero, Go.Sort.putRow_self _ _ _ _ _ h.1]⟩
theorem Rn.row {w0 w : World} {blk off : Nat} {d0 d : Array Int} (h0 : RowN w0 blk off d0) (h : Rn w0 blk off d w) (hs : d.size = d0.size) : RowN w blk off d := by
  obtain ⟨n, os, rfl⟩ := h
  refine ⟨Go.Sort.holds_grow _ _ _ _ _ _ ?_ (Go.Sort.holds_putRow _ _ _ _ d0 d (Go.Sort.holds_ahead _ _ _ _ _ _ h0.1) hs), ?_, by rw [hs]; exact h0.2.2⟩
  · rw [Go.Sort.size_putRow]; exact h0.2.1
  · rw [Go.Sort.size_grow, Go.Sort.size_putRow]; have := h0.2.1; show blk < (Go.Sort.ahead w0 n).heap.size + os.size; rw [Go.Sort.heap_ahead]; omega
theorem RowN.cell {w : World} {blk off : Nat} {d : Array Int} (h : RowN w blk off d) {t : Nat} (ht : t < d.size) : w.cell? ⟨blk, off + t, none⟩ = some (.int .i64 d[t]!) := (h.1 t ht).1
theorem RowN.frozen {w : World} {blk off : Nat} {d : Array Int} (h : RowN w blk off d) {t : Nat} (ht : t < d.size) : w.frozen? ⟨blk, off + t, none⟩ = false := (h.1 t ht).2
theorem Rn.drewN {w0 w : World} {blk off : Nat} {d : Array Int} (h : Rn w0 blk off d w) (q : Nat) : Rn w0 blk off d (w.drewN q) := by
  obtain ⟨n, os, rfl⟩ := h
  refine ⟨n + q, os, ?_⟩
  show Go.Sort.ahead (Go.Sort.grow _ os) q = _
  rw [Go.Sort.ahead_grow, ← Go.Sort.putRow_ahead, Go.Sort.ahead_ahead]
theorem Rn.drew {w0 w : World} {blk off : Nat} {d : Array Int} (h : Rn w0 blk off d w) : Rn w0 blk off d w.drew := h.drewN 1
theorem Rn.swap {w0 w : World} {blk off : Nat} {d0 d : Array Int} (h0 : RowN w0 blk off d0) (h : Rn w0 blk off d w) {i j : Nat} (hi : i < d.size) (hj : j < d.size) :
    Rn w0 blk off (swp d i j) ((w.setCell ⟨blk, off + i, none⟩ (.int .i64 d[j]!)).setCell ⟨blk, off + j, none⟩ (.int .i64 d[i]!)) := by
  obtain ⟨n, os, rfl⟩ := h
  refine ⟨n, os, ?_⟩
  have hb : blk < (Go.Sort.putRow (Value.int .i64) (Go.Sort.ahead w0 n) blk off d).heap.size := by rw [Go.Sort.size_putRow]; exact h0.2.1
  rw [← Go.Sort.putRow_swp _ _ _ _ _ _ _ hi hj, Go.Sort.setCell_eq, Go.Sort.setCell_eq, Go.Sort.setCell_eq, Go.Sort.setCell_eq]
  rw [Go.Sort.mapBlock_grow _ _ _ _ hb, Go.Sort.mapBlock_grow _ _ _ _ (by unfold Go.Sort.mapBlock; simpa using hb)]
theorem Rn.trans {w0 w w' : World} {blk off : Nat} {d0 d d' : Array Int} (h0 : RowN w0 blk off d0) (h : Rn w0 blk off d w) (h' : Rn w blk off d' w') (hs : d'.size = d.size) : Rn w0 blk off d' w' := by
  obtain ⟨n, os, rfl⟩ := h
  obtain ⟨m, os', rfl⟩ := h'
  exact ⟨n + m, os ++ os', Go.Sort.grow_step_grow _ _ _ _ _ _ _ _ _ _ h0.2.1 hs⟩
theorem Rn.grownBy {w w' : World} {g : Nat} {d : Array Int} (h : Rn w g 0 d w') : w.grownBy w' (some g) := by
  obtain ⟨n, os, rfl⟩ := h
  refine ⟨rfl, rfl, rfl, by simp, fun q hq hne => ?_⟩
  rw [Go.Sort.heap_grow_old _ _ (by simpa using hq)]
  have : g ≠ q := fun e => hne (by rw [e])
  simp [Go.Sort.putRow, Go.Sort.mapBlock, Go.Sort.ahead, Array.getElem?_modify, this]
/-- another block is as it was -/
theorem Rn.other {w w' : World} {blk off g : Nat} {d : Array Int} (h : Rn w blk off d w') (hg : g < w.heap.size) (hne : g ≠ blk) (i : Nat) : w'.cell? ⟨g, i, none⟩ = w.cell? ⟨g, i, none⟩ := by
  obtain ⟨n, os, rfl⟩ := h
  unfold World.cell?
  have : (Go.Sort.grow (Go.Sort.putRow (Value.int .i64) (Go.Sort.ahead w n) blk off d) os).heap[g]? = w.heap[g]? := by
    rw [Go.Sort.heap_grow_old _ _ (by simpa using hg)]
    have : blk ≠ g := fun e => hne e.symm
    simp [Go.Sort.putRow, Go.Sort.mapBlock, Go.Sort.ahead, Array.getElem?_modify, this]
  simp only [this]
#print axioms Rn.other
/-- the key of a place: its byte -/
def keyS (s : ByteArray) (x : Int) : Int := ((bs s).getD x.toNat 0).toNat
theorem keyS_at {s : ByteArray} {x : Nat} (h : x < s.size) : keyS s (x : Int) = (s[x].toNat : Int) := by
  have h' : x < (bs s).length := by rw [bs_len]; exact h
  unfold keyS
  rw [Int.toNat_natCast, List.getD_eq_getElem?_getD, List.getElem?_eq_getElem h', Option.getD_some, bs_get h]
theorem keyS_le (s : ByteArray) (x : Int) : 0 ≤ keyS s x ∧ keyS s x ≤ 255 := by
  unfold keyS
  have := ((bs s).getD x.toNat 0).toNat_lt
  omega
set_option maxRecDepth 100000 in
theorem cmp_any (s : ByteArray) (g : Nat) (x y : Int) (W : World) (hc : W.cell? ⟨g, 0, none⟩ = some (.string s)) (hx0 : 0 ≤ x) (hx : x < s.size) (hy0 : 0 ≤ y) (hy : y < s.size) :
    Calls Try.prog 83 #[.int .i64 x, .int .i64 y, .pointer (some ⟨g, 0, none⟩)] W fun e w' => e = .returned (.int .i64 (keyS s x - keyS s y)) ∧ ∃ q, w' = W.drewN q := by
  obtain ⟨a, rfl⟩ : ∃ a : Nat, x = a := ⟨x.toNat, by omega⟩
  obtain ⟨b, rfl⟩ : ∃ b : Nat, y = b := ⟨y.toNat, by omega⟩
  have ha : a < s.size := by omega
  have hb : b < s.size := by omega
  rw [keyS_at ha, keyS_at hb]
  have h1 := s[a].toNat_lt
  have h2 := s[b].toNat_lt
  have hw : IntKind.i64.wrap ((s[a].toNat : Int) - (s[b].toNat : Int)) = (s[a].toNat : Int) - (s[b].toNat : Int) := IntWalk.i64_in _ ⟨by omega, by omega⟩
  have hw1 : IntKind.i64.wrap (s[a].toNat : Int) = (s[a].toNat : Int) := IntWalk.i64_in _ ⟨by omega, by omega⟩
  have hw2 : IntKind.i64.wrap (s[b].toNat : Int) = (s[b].toNat : Int) := IntWalk.i64_in _ ⟨by omega, by omega⟩
  clear hx0 hy0 h1 h2
  go_enter Try.func83, Try.ntmps83
  go_wp2_with fail
  go_quiet (fail)
  go_wp2_with fail
  go_ret
  exact ⟨rfl, _, rfl⟩
#print axioms cmp_any
/-- the comparison as the sorts have it -/
def Cmpf (s : ByteArray) (fv : Value) (W : World) : Prop := ∃ g, fv = .func (.func 83) #[] #[.pointer (some ⟨g, 0, none⟩)] ∧ g < W.heap.size ∧ W.cell? ⟨g, 0, none⟩ = some (.string s)
set_option maxHeartbeats 2000000 in
set_option maxRecDepth 100000 in
theorem swapR_n (fv : Value) (blk off cap a b n : Nat) (d : Array Int) (w : World) (hR : RowN w blk off d) (hab : a + n ≤ b) (hb : b + n ≤ d.size) :
    Calls Try.prog 153 #[.slice (some ⟨blk, off, none⟩) d.size cap, .int .i64 a, .int .i64 b, .int .i64 n, fv] w fun e w' => e = .returned (.tuple #[]) ∧ ∃ d', Rn w blk off d' w' ∧ (∀ x y, x ≤ a → b + n ≤ y → y ≤ d.size → PermIn x y d d') ∧ ∀ t, t < d.size → d'[t]! = swF a b n (fun t => d[t]!) t := by
  obtain ⟨N, hN⟩ : ∃ N, N = d.size := ⟨_, rfl⟩
  have HR := Lib.hid hR
  have HN := Lib.hid hN
  have hN1 : N < 1000000 := by rw [hN]; exact hR.2.2
  rw [← hN] at hb
  rw [← hN]
  clear hR hN
  go_enter Try.func153, Try.ntmps153
  go_wp2
  go_loopw [10] (fun vi wr => ∃ (i : Nat) (dk : Array Int), vi = .int .i64 i ∧ i ≤ n ∧ Rn w blk off dk wr ∧ (∀ x y, x ≤ a → b + n ≤ y → y ≤ N → PermIn x y d dk) ∧ dk.size = N ∧ ∀ t, t < N → dk[t]! = swF a b i (fun t => d[t]!) t) (fun vi _ => n - (intOf vi).toNat)
  case atStart => exact ⟨0, d, rfl, Nat.zero_le _, Rn.start HR.out, fun x y _ _ _ => permIn_refl _ _ _, HN.out.symm, fun t ht => by rw [sw_zero]⟩
  case round =>
    obtain ⟨i, dk, rfl, hi, hrw, hp, hsz, hin⟩ := hrel
    obtain ⟨G, hG⟩ : ∃ G : Nat → Int, ∀ t, G t = dk[t]! := ⟨fun t => dk[t]!, fun _ => rfl⟩
    have hrow := Rn.row HR.out hrw (by rw [hsz]; exact HN.out)
    have hcw : ∀ t, t < N → wr.cell? ⟨blk, off + t, none⟩ = some (.int .i64 (G t)) := fun t ht => by rw [hG]; exact hrow.cell (by omega)
    have hfw : ∀ t, t < N → wr.frozen? ⟨blk, off + t, none⟩ = false := fun t ht => hrow.frozen (by omega)
    have HW := Lib.hid hrw
    have HG := Lib.hid hG
    have HZ := Lib.hid hsz
    have HI := Lib.hid hin
    have HP := Lib.hid hp
    clear hrw hG hrow hsz hin hp
    by_cases hlt : i < n
    · obtain ⟨x, hx⟩ : ∃ x, x = a + i := ⟨_, rfl⟩
      obtain ⟨y, hy⟩ : ∃ y, y = b + i := ⟨_, rfl⟩
      have hw1 : IntKind.i64.wrap ((a : Int) + (i : Int)) = (x : Int) := by rw [IntWalk.i64_in _ ⟨by omega, by omega⟩]; omega
      have hw2 : IntKind.i64.wrap ((b : Int) + (i : Int)) = (y : Int) := by rw [IntWalk.i64_in _ ⟨by omega, by omega⟩]; omega
      have hs1 : (a : Int) + (i : Int) = (x : Int) := by omega
      have hs2 : (b : Int) + (i : Int) = (y : Int) := by omega
      have hxN : x < N := by omega
      have hyN : y < N := by omega
      have hcx := hcw x hxN
      have hcy := hcw y hyN
      have hfx := hfw x hxN
      have hfy := hfw y hyN
      have hxy : x < y := by omega
      have HX := Lib.hid hx
      have HY := Lib.hid hy
      clear hx hy hcw hfw
      go_wp2_with fail
      go_region
      all_goals go_wp2
      go_roundw
      case rel =>
        refine ⟨i + 1, swp dk x y, by go_num, by omega, ?_, fun p q h1 h2 h3 => permIn_trans _ _ _ _ _ (HP.out p q h1 h2 h3) (swp_permIn _ _ _ _ _ (by have := HX.out; omega) (by omega) (by omega) (by have := HY.out; omega) (by rw [HZ.out]; exact h3)), by rw [swp_size]; exact HZ.out, fun t ht => ?_⟩
        · have h := (Rn.swap HR.out HW.out (i := x) (j := y) (by rw [HZ.out]; omega) (by rw [HZ.out]; omega)).drew
          rw [← HG.out, ← HG.out] at h
          exact h
        · have e1 := HX.out
          have e2 := HY.out
          rw [swp_get dk (by rw [HZ.out]; omega) (by rw [HZ.out]; omega), HI.out x (by omega), HI.out y (by omega), HI.out t ht]
          unfold swF
          repeat' split
          all_goals first | rfl | (congr 1; omega) | (exfalso; omega)
      case measure => simp [intOf] <;> omega
    · obtain rfl : i = n := by omega
      go_wp2_with fail
      go_end0
      exact ⟨rfl, dk, HW.out, HP.out, HI.out⟩
#print axioms swapR_n
end Go.Proofs.Ytbnlkmblkokooaa

/- Extract of an index that New made; the reference's Rank. -/
import Derived.Test.YtbnlkmblkokooaaSuf
import Derived.Test.YtbnlkmblkokooaaWvl
namespace Go.Proofs.Ytbnlkmblkokooaa
open Go.RowKit
/-- a part of a label, filled from its end -/
def bRow (l : Bs) (a n m : Nat) : Bs := (List.range n).map fun j => if m ≤ a + j then l.getD (a + j) 0 else 0
theorem bRow_len (l : Bs) (a n m : Nat) : (bRow l a n m).length = n := by simp [bRow]
theorem bRow_zero {l : Bs} {a n m : Nat} (h : a + n ≤ m) : bRow l a n m = List.replicate n 0 := by
  apply List.ext_getElem (by simp [bRow])
  intro i h1 h2
  have hi : i < n := by simpa [bRow_len] using h1
  simp [bRow, show ¬ m ≤ a + i by omega]
theorem bRow_full {l : Bs} {a n : Nat} (h : a + n ≤ l.length) : bRow l a n a = (l.drop a).take n := by
  apply List.ext_getElem (by simp [bRow]; omega)
  intro i h1 h2
  have hi : i < n := by simpa [bRow_len] using h1
  simp [bRow, List.getD, List.getElem?_eq_getElem (show a + i < l.length by omega)]
theorem bRow_set {l : Bs} {a n m : Nat} (h : a < m) (_ : m - 1 < a + n) : (bRow l a n m).set (m - 1 - a) (l.getD (m - 1) 0) = bRow l a n (m - 1) := by
  apply List.ext_getElem (by simp [bRow])
  intro i h1 h2
  have hi : i < n := by simpa [bRow_len] using h1
  rw [List.getElem_set]
  by_cases e : m - 1 - a = i
  · subst e
    have e2 : a + (m - 1 - a) = m - 1 := by omega
    simp [bRow, e2]
    intro h; omega
  · rw [if_neg e]
    simp only [bRow, List.getElem_map, List.getElem_range]
    by_cases e2 : m ≤ a + i
    · rw [if_pos e2, if_pos (by omega)]
    · rw [if_neg e2, if_neg (by omega)]
theorem bRow_skip {l : Bs} {a n m : Nat} (hm : a + n ≤ m - 1) : bRow l a n (m - 1) = bRow l a n m := by
  rw [bRow_zero hm, bRow_zero (by omega)]
def BRow (l : Bs) (w : World) (base blk a n m : Nat) : Prop := w.ownsRow base 5 1 (.slice (some ⟨blk, 0, none⟩) n n) n (Lib.byteCells (bRow l a n m))
theorem makeB_row (l : Bs) {base a n m : Nat} {w3 : World} {B : Nat} (hm : a + n ≤ m) (hown : w3.ownsRow base 5 1 (.slice (some ⟨B, 0, none⟩) n n) n (madeCells (Value.int IntKind.u8 0).cells (n * 1)).toList) : BRow l w3 base B a n m := by
  have e : (madeCells (Value.int IntKind.u8 0).cells (n * 1)).toList = Lib.byteCells (bRow l a n m) := by
    rw [Nat.mul_one, bRow_zero hm]
    show (madeCells #[Value.int .u8 0] n).toList = _
    rw [toList_madeCells_one]
    simp [Lib.byteCells]
  rw [e] at hown
  exact hown
theorem infoByte : ∃ i0, Try.prog.info? 5 = some i0 ∧ i0.zero = some (.int .u8 0) ∧ i0.size = 1 ∧ i0.bytes = 1 := by
  have : (Try.prog.info? 5).map (fun i => (i.zero, i.size, i.bytes)) = some (some (.int .u8 0), 1, 1) := by kernel_rfl
  cases h : Try.prog.info? 5 with
  | none => rw [h] at this; cases this
  | some i0 => rw [h] at this; simp only [Option.map_some, Option.some.injEq, Prod.mk.injEq] at this; exact ⟨i0, rfl, this⟩
theorem newE_bad' {s : ByteArray} (hs : s.size ≤ 1000) (h : ¬ Lab (bs s)) (w : World) :
    Calls Try.prog 33 #[.string s] w fun e w' => e = .returned (.tuple #[.pointer none, .int .i64 2]) ∧ w = w' := by
  have H := Lib.hid (isLabel_b s hs false (decide_eq_false h) w)
  clear h
  go_enter Try.func33, Try.ntmps33
  go_wp2_with fail
  refine H.out.mono ?_
  rintro e w1 ⟨rfl, rfl⟩
  go_wp2_with fail
  go_ret2
  exact ⟨rfl, rfl⟩
theorem nil_made2 {B : Nat} {w : World} {v : Value} {l : Bs} (hm : Made B w v l) : ∃ g tv, v = .pointer (some ⟨g, 0, none⟩) ∧ w.cell? ⟨g, 0, none⟩ = some (.pointer (some ⟨g, 0, none⟩)) ∧ w.cell? ⟨g, 1, none⟩ = some tv ∧ w.cell? ⟨g, 2, none⟩ = some (.int .i64 (l.length + 1 : Nat)) := by
  obtain ⟨g, tv, rfl, hB, hix, hnd⟩ := hm
  obtain ⟨hc0, hc1, hc2⟩ := hix.head
  exact ⟨g, tv, rfl, hc0, hc1, hc2⟩
theorem extract_arg {B : Nat} {l : Bs} {v : Value} (w : World) (hm : Made B w v l) (i j : Int) (hi : i < 0 ∨ (0 ≤ i ∧ j < i) ∨ (0 ≤ i ∧ i ≤ j ∧ (l.length : Int) < j)) :
    Calls Try.prog 38 #[v, .int .i64 i, .int .i64 j] w fun e w' => e = .returned (.tuple #[.string ⟨#[]⟩, .int .i64 2]) ∧ ∃ q, w' = w.drewN q := by
  have HY := Lib.hid hm.yes
  obtain ⟨g, tv, rfl, hc0, hc1, hc2⟩ := nil_made2 hm
  clear hm
  rcases hi with hi | ⟨hi0, hi⟩ | ⟨hi0, hi1, hi⟩
  · go_enter Try.func38, Try.ntmps38
    go_wp2_with fail
    refine HY.out.mono ?_
    rintro e w1 ⟨rfl, hw⟩
    subst hw
    go_wp2_with fail
    go_ret2
    exact ⟨rfl, 0, rfl⟩
  · go_enter Try.func38, Try.ntmps38
    go_wp2_with fail
    refine HY.out.mono ?_
    rintro e w1 ⟨rfl, hw⟩
    subst hw
    go_wp2_with fail
    go_ret2
    exact ⟨rfl, 0, rfl⟩
  · have hjn : ((l.length + 1 : Nat) : Int) ≤ j := by omega
    obtain ⟨n, hn⟩ : ∃ n, n = l.length + 1 := ⟨_, rfl⟩
    rw [← hn] at hjn hc2
    clear hn
    go_enter Try.func38, Try.ntmps38
    go_wp2_with fail
    refine HY.out.mono ?_
    rintro e w1 ⟨rfl, hw⟩
    subst hw
    go_wp2_with fail
    go_ret2
    exact ⟨rfl, 0, rfl⟩
#print axioms extract_arg
set_option maxRecDepth 100000 in
set_option maxHeartbeats 4000000 in
theorem extract_yes {B : Nat} {l : Bs} {v : Value} (hl : Lab l) (w : World) (hm : Made B w v l) (a b : Nat) (hab : a ≤ b) (hb : b ≤ l.length) :
    Calls Try.prog 38 #[v, .int .i64 a, .int .i64 b] w fun e w' => e = .returned (.tuple #[strV ((l.drop a).take (b - a)), .int .i64 0]) ∧ Below w.heap.size w w' := by
  obtain ⟨i0, hi0, hz0, hz1, hz2⟩ := infoByte
  have HY := Lib.hid hm.yes
  have HB := Lib.hid (fun (w' : World) (hb : Below w.heap.size w w') (k : Nat) (hk : k ≤ l.length) => back_any hl w' (hm.keep hb) k hk)
  have hgt : ∀ c ∈ l, 10 < c := fun c hc => letter_gt (hl.2 c hc)
  have HS := Lib.hid (fun p (hp : p ≤ l.length) (h0 : saAt l p ≠ 0) => back_step hgt hp h0)
  have HL := Lib.hid (saAt_le l)
  have H0 := Lib.hid (saAt_zero l)
  obtain ⟨g, tv, rfl, hc0, hc1, hc2⟩ := nil_made2 hm
  have h200 := hl.1
  obtain ⟨n, hn⟩ : ∃ n, n = l.length := ⟨_, rfl⟩
  rw [← hn] at hc2 HB HS HL H0 hb
  have hn1 : n ≤ 200 := by omega
  obtain ⟨m, hmd⟩ : ∃ m, m = b - a := ⟨_, rfl⟩
  have hbm : b = a + m := by omega
  have HFull := Lib.hid (bRow_full (l := l) (a := a) (n := m) (by omega))
  have HMk := Lib.hid (fun (w3 : World) (B : Nat) (h : w3.ownsRow w.heap.size 5 1 (.slice (some ⟨B, 0, none⟩) m m) m (madeCells (Value.int IntKind.u8 0).cells (m * 1)).toList) => makeB_row l (a := a) (n := m) (m := n) (by omega) h)
  have Hi := Lib.hid hi0
  have Hz0 := Lib.hid hz0
  have Hz1 := Lib.hid hz1
  have Hby := Lib.hid (show i0.bytes * m ≤ 281474976710656 by rw [hz2]; omega)
  have hwm : IntKind.i64.wrap ((b : Int) - (a : Int)) = (m : Int) := by rw [IntWalk.i64_in _ ⟨by omega, by omega⟩]; omega
  have hwn : IntKind.i64.wrap ((n : Int) + 1 - 2) = (n : Int) - 1 := by rw [IntWalk.i64_in _ ⟨by omega, by omega⟩]; omega
  have hc2k := Lib.hid hc2
  have hd1 : decide ((b : Int) < (a : Int)) = false := decide_eq_false (by omega)
  have HBm := Lib.hid hbm
  have hm200 : m ≤ 200 := by omega
  have ham : (a : Int) ≤ (b : Int) := by omega
  have hbn : (b : Int) < ((n + 1 : Nat) : Int) := by omega
  rw [← hmd]
  clear hbm hm hl hgt hn h200 hi0 hz0 hz1 hz2 hmd
  go_enter Try.func38, Try.ntmps38
  go_wp2_with fail
  refine HY.out.mono ?_
  rintro e w1 ⟨rfl, hw⟩
  subst hw
  go_wp2_with (refine wpList_make_full _ rfl (.tmp 32) (.tmp 32) 53 rfl w.heap.size 5 i0 (.int .u8 0) 1 Try.underlying53 Hi.out Hz0.out Hz1.out .i64 .i64 _ _ m rfl rfl rfl rfl Hby.out (by unfold maxLen; omega) (Nat.le_refl _) ?_; intro w3 hown hg; have hb3 : Below w.heap.size w w3 := ⟨hg.os, hg.tape, hg.output, hg.size, fun k hk => hg.block k hk (by simp)⟩; have hc23 := Below.keep hb3 hc2)
  have Hrow := Lib.hid (HMk.out _ _ hown)
  have Hb3 := Lib.hid hb3
  have hix' := run_ix (P := Try.prog) (t := 53) (a := some ⟨w.heap.size, 0, none⟩) (len := m) (cap := m) (b := w.heap.size) (off := 0) (s := 1) Try.underlying53 (by intro w; kernel_rfl) (fun _ => rfl)
  simp only [Nat.mul_one, Nat.zero_add] at hix'
  have Hix' := Lib.hid hix'
  clear hown hg hix' hb3 hwm hc0 hc1 hc2 hd1
  clear hwn hc23
  go_loopw [9, 10] (fun vp vi wr => ∃ k j : Nat, vp = .int .i64 k ∧ vi = .int .i64 ((j : Int) - 1) ∧ k ≤ n ∧ saAt l k = j ∧ a ≤ j ∧ Below w.heap.size w wr ∧ BRow l wr w.heap.size w.heap.size a m j) (fun _ vi _ => (intOf vi + 1).toNat)
  case atStart => exact ⟨0, n, rfl, rfl, Nat.zero_le _, H0.out, by omega, Hb3.out, Hrow.out⟩
  case round =>
    obtain ⟨k, j, rfl, rfl, hk, hsa, haj, hbe, hrow⟩ := hrel
    have HBe := Lib.hid hbe
    have HRw := Lib.hid hrow
    clear hbe hrow
    have hjn : j ≤ n := by rw [← hsa]; exact HL.out k
    have hbm := HBm.out
    by_cases hlt : a < j
    · have hBk := HB.out wr HBe.out k hk
      have hSk := HS.out k hk (by omega)
      have htc : tc l k = l.getD (j - 1) 0 := by unfold tc chB; rw [hsa, if_neg (by omega)]
      rw [htc] at hBk hSk
      rw [hsa] at hSk
      obtain ⟨c, hc⟩ : ∃ c, c = l.getD (j - 1) 0 := ⟨_, rfl⟩
      rw [← hc] at hBk hSk
      obtain ⟨y, hy⟩ : ∃ y, y = bel l c + rk l c k := ⟨_, rfl⟩
      rw [← hy] at hBk hSk
      have HBk := Lib.hid hBk
      have HSk := Lib.hid hSk
      have HC := Lib.hid hc
      have hin : (a : Int) ≤ (j : Int) - 1 := by omega
      have hw1 : IntKind.i64.wrap ((j : Int) - 1 - 1) = ((j - 1 : Nat) : Int) - 1 := by rw [IntWalk.i64_in _ ⟨by omega, by omega⟩]; omega
      clear hBk hSk htc hc hy hsa
      by_cases hjb : j - 1 < b
      · have hjm : j - 1 - a < m := by omega
        clear hbm
        have hjb2 : (j : Int) - 1 < (b : Int) := by omega
        have hw2 : IntKind.i64.wrap ((j : Int) - 1 - (a : Int)) = ((j - 1 - a : Nat) : Int) := by rw [IntWalk.i64_in _ ⟨by omega, by omega⟩]; omega
        have hfz := World.ownsRow.frozenAt HRw.out (j - 1 - a)
        have hcell := World.ownsRow.cellAt HRw.out (j - 1 - a) (by omega)
        obtain ⟨x0, hx0⟩ : ∃ x0, wr.cell? ⟨w.heap.size, j - 1 - a, none⟩ = some x0 := ⟨_, hcell.trans (List.getElem?_eq_getElem (show j - 1 - a < (Lib.byteCells (bRow l a m j)).length by rw [bcells_len, bRow_len]; exact hjm))⟩
        clear hcell
        have hixr := Hix'.out (j - 1 - a)
        go_wp2_with fail
        refine HBk.out.mono ?_
        rintro e w5 ⟨rfl, q, hw5⟩
        have HW5 := Lib.hid hw5
        have hfz5 : w5.frozen? ⟨w.heap.size, j - 1 - a, none⟩ = false := by rw [hw5]; exact hfz
        have hcell5 : w5.cell? ⟨w.heap.size, j - 1 - a, none⟩ = some x0 := by rw [hw5]; exact hx0
        clear hw5 hfz hx0
        go_wp2_with fail
        have hst := World.ownsRow.stored (owns_drewN HRw.out q) (j - 1 - a) (.int .u8 c.toNat)
        rw [← HW5.out] at hst
        have HR := Lib.hid (show BRow l (w5.setCell ⟨w.heap.size, j - 1 - a, none⟩ (.int .u8 c.toNat)) w.heap.size w.heap.size a m (j - 1) from by
          unfold BRow
          rw [← bRow_set hlt (by have := HBm.out; omega), ← HC.out]
          have h1 := hst.1
          rw [show (Lib.byteCells (bRow l a m j)).set (j - 1 - a) (Value.int IntKind.u8 c.toNat) = Lib.byteCells ((bRow l a m j).set (j - 1 - a) c) from by simp [Lib.byteCells, List.map_set]] at h1
          exact h1)
        have HB5 := Lib.hid (show Below w.heap.size w (w5.setCell ⟨w.heap.size, j - 1 - a, none⟩ (.int .u8 c.toNat)) from by
          rw [HW5.out]; exact (bdrewN HBe.out q).setCell (Nat.le_refl _) _)
        clear hst
        go_roundw
        case rel => exact ⟨y, j - 1, rfl, by first | rfl | (rw [hw1]; rfl) | rw [hw1], HSk.out.2, HSk.out.1, by omega, HB5.out, HR.out⟩
        case measure => simp [intOf] <;> omega
      · have hjb2 : (b : Int) ≤ (j : Int) - 1 := by omega
        have HSkp := Lib.hid (bRow_skip (l := l) (a := a) (n := m) (m := j) (by omega))
        clear hbm
        go_wp2_with fail
        refine HBk.out.mono ?_
        rintro e w5 ⟨rfl, q, hw5⟩
        have HW5 := Lib.hid hw5
        clear hw5
        go_wp2_with fail
        go_roundw
        case rel => exact ⟨y, j - 1, rfl, by first | rfl | (rw [hw1]; rfl) | rw [hw1], HSk.out.2, HSk.out.1, by omega, by rw [HW5.out]; exact bdrewN HBe.out q, by rw [HW5.out]; unfold BRow; rw [HSkp.out]; exact HRw.out⟩
        case measure => simp [intOf] <;> omega
    · clear hbm
      obtain rfl : j = a := by omega
      have hin : (j : Int) - 1 < (j : Int) := by omega
      have hro := HRw.out
      unfold BRow at hro
      rw [HFull.out] at hro
      have hlenr : ((l.drop j).take m).length = m := by rw [← HFull.out, bRow_len]
      have hby : Byts wr (.slice (some ⟨w.heap.size, 0, none⟩) m m) ((l.drop j).take m) := OwnByts.byts (base := w.heap.size) (by unfold OwnByts; rw [hlenr]; exact hro)
      have hcv := conv_str hby
      clear hro hlenr hby
      go_wp2_with fail
      go_ret2
      exact ⟨rfl, HBe.out⟩
#print axioms extract_yes
set_option maxRecDepth 100000 in
set_option maxHeartbeats 4000000 in
theorem rankR_any {s : ByteArray} (hs : s.size ≤ 900) (c : UInt8) (i : Nat) (hi : i ≤ s.size + 1) (w : World) :
    Calls Try.prog 39 #[.string s, .int .u8 c.toNat, .int .i64 i] w fun e w' => e = .returned (.int .i64 (cnt c ((tr (bs s)).take i) : Nat)) ∧ Below w.heap.size w w' := by
  have HT := Lib.hid (transformR_any s (by omega))
  obtain ⟨S, hS⟩ : ∃ S : ByteArray, strV (tr (bs s)) = .string S := ⟨_, rfl⟩
  have hSb : bs S = tr (bs s) := by unfold strV at hS; injection hS with hS; rw [← hS]; rfl
  have hSl : S.size = s.size + 1 := by rw [← bs_len, hSb, tr_length, bs_len]
  rw [hS] at HT
  obtain ⟨T, hT⟩ : ∃ T, T = S.extract 0 i := ⟨_, rfl⟩
  have hTb : bs T = (tr (bs s)).take i := by rw [hT, bs_part, hSb]; simp
  have hTl : T.size = i := by rw [← bs_len, hTb, List.length_take, tr_length, bs_len]; omega
  have hTi : i ≤ 901 := by omega
  have HTl := Lib.hid hTl
  have HTb := Lib.hid hTb
  have HTe := Lib.hid hT
  have hiS : (i : Int) ≤ (S.size : Int) := by omega
  obtain ⟨l, hl⟩ : ∃ l, l = (tr (bs s)).take i := ⟨_, rfl⟩
  have HL := Lib.hid (show bs T = l by rw [hTb, hl])
  have HLl := Lib.hid (show l.length = i by rw [hl, List.length_take, tr_length, bs_len]; omega)
  obtain ⟨x, hx⟩ : ∃ x, x = c.toNat := ⟨_, rfl⟩
  have HX := Lib.hid hx
  rw [← hl, ← hx]
  clear hS hSb hSl hT hTb hTl hl hx hi hs
  go_enter Try.func39, Try.ntmps39
  go_wp2_with fail
  refine (HT.out _).mono ?_
  rintro e w1 ⟨rfl, hb1⟩
  have Hb1 := Lib.hid hb1
  clear hb1
  go_wp2_with fail
  rw [← HTe.out, run_bytes_of_string w1 9 53 5 T Try.underlying9 Try.underlying53 Try.underlying5]
  simp only [Result.andThen]
  rw [Oper.upon_value]
  obtain ⟨cap, w3, hw3, hcap, hby, hbw⟩ := bytes_new T w1 (by rw [HTl.out]; omega)
  rw [← hcap, ← hw3]
  have HB3 := Lib.hid (Below.tr Hb1.out hbw)
  obtain ⟨a1, ha1⟩ : ∃ a1, a1 = w1.heap.size := ⟨_, rfl⟩
  rw [← ha1] at hby ⊢
  rw [HL.out, HTl.out] at hby
  rw [HTl.out]
  have hcell : ∀ j (h : j < l.length), w3.cell? ⟨a1, j, none⟩ = some (.int .u8 l[j].toNat) := by
    intro j hj
    obtain ⟨a', b', off', cap', hv, _, ha, hc⟩ := hby.get
    rw [ha (by omega)] at hv
    injection hv with hv
    injection hv with hv
    injection hv with e1 e2 _
    have := hc j hj
    rwa [← e1, ← e2, Nat.zero_add] at this
  have hix := run_ix (P := Try.prog) (t := 53) (a := some ⟨a1, 0, none⟩) (len := i) (cap := cap) (b := a1) (off := 0) (s := 1) Try.underlying53 (by intro w; kernel_rfl) (fun _ => rfl)
  simp only [Nat.mul_one, Nat.zero_add] at hix
  have HIx := Lib.hid hix
  have HCe := Lib.hid hcell
  have HCn := Lib.hid (show ∀ j, j ≤ i → cnt c (l.take j) ≤ j from fun j hj => by
    have : cnt c (l.take j) ≤ (l.take j).length := List.countP_le_length
    rw [List.length_take] at this
    omega)
  clear hw3 hcap hby hbw ha1 hix hcell hiS
  go_wp2_with fail
  go_loopw [7, 16] (fun vn vj wr => ∃ j : Nat, vj = .int .i64 j ∧ vn = .int .i64 (cnt c (l.take j) : Nat) ∧ j ≤ i ∧ wr = w3) (fun _ vj _ => i - (intOf vj).toNat)
  case atStart => exact ⟨0, rfl, rfl, Nat.zero_le _, rfl⟩
  case round =>
    obtain ⟨j, rfl, rfl, hj, hwr⟩ := hrel
    subst hwr
    have hcn := HCn.out j hj
    by_cases hlt : j < i
    · have hjl : j < l.length := by rw [HLl.out]; exact hlt
      have hcj := HCe.out j hjl
      have hixj := HIx.out j
      obtain ⟨y, hy⟩ : ∃ y, y = l[j] := ⟨_, rfl⟩
      rw [← hy] at hcj
      have hts : cnt c (l.take (j + 1)) = cnt c (l.take j) + (if y = c then 1 else 0) := by
        rw [List.take_succ_eq_append_getElem hjl, ← hy]
        unfold cnt
        rw [List.countP_append]
        by_cases e : y = c <;> simp [e]
      obtain ⟨z, hz⟩ : ∃ z, z = cnt c (l.take j) := ⟨_, rfl⟩
      rw [← hz] at hts hcn ⊢
      have HTs := Lib.hid hts
      clear hy hts hz
      by_cases he : y = c
      · have hye : (y.toNat : Int) = (x : Int) := by rw [he, HX.out]
        have HTs1 := Lib.hid (show cnt c (l.take (j + 1)) = z + 1 from by rw [HTs.out, if_pos he])
        clear he
        go_wp2_with fail
        go_roundw
        case rel => exact ⟨j + 1, by go_num, by rw [HTs1.out]; go_num, by omega, trivial⟩
        case measure => simp [intOf] <;> omega
      · have hye : (y.toNat : Int) ≠ (x : Int) := by rw [HX.out]; intro h; exact he (UInt8.toNat_inj.1 (by omega))
        have HTs1 := Lib.hid (show cnt c (l.take (j + 1)) = z from by rw [HTs.out, if_neg he, Nat.add_zero])
        clear he
        go_wp2_with fail
        go_roundw
        case rel => exact ⟨j + 1, by go_num, by rw [HTs1.out], by omega, trivial⟩
        case measure => simp [intOf] <;> omega
    · obtain rfl : j = i := by omega
      have htk : l.take j = l := List.take_of_length_le (by rw [HLl.out]; exact Nat.le_refl _)
      rw [htk]
      go_wp2_with fail
      go_ret
      exact ⟨rfl, HB3.out⟩
#print axioms rankR_any
end Go.Proofs.Ytbnlkmblkokooaa

/- Contracts of lastWriter, from, From. -/
import Derived.Test.YtpehbffkplmfjaaLiv
namespace Go.Proofs.Ytpehbffkplmfjaa
open Go.RowKit

/-- the last writer of item x among the first m operations, none of those that have aborted before i -/
def lw (h : List NOp) (i x : Nat) : Nat → Nat
  | 0 => 0
  | m + 1 => if tK h m = 1 ∧ tI h m = x ∧ i ≤ en h 3 h.length (tT h m) then tT h m else lw h i x m
theorem lv_abo (h : List NOp) {t : Nat} (ht : t < 7) : lv h h.length (14 + t) = en h 3 h.length t := by
  unfold lv; rw [if_neg (by omega), if_neg (by omega)]; congr 1; omega
theorem lv_com (h : List NOp) {t : Nat} (ht : t < 7) : lv h h.length (7 + t) = en h 2 h.length t := by
  unfold lv; rw [if_neg (by omega), if_pos (by omega)]; congr 1; omega
theorem lv_beg (h : List NOp) {t : Nat} (ht : t < 7) : lv h h.length t = beg h h.length t := by
  unfold lv; rw [if_pos ht]
set_option maxRecDepth 100000 in
set_option maxHeartbeats 8000000 in
theorem lastWriter_any {h : List NOp} (hh : VH h) {n : Nat} (hn : n ≤ h.length) (x : Nat) {a : Option Addr} {c : Nat} (w : World) (hv : Ops w (.slice a h.length c) (castO h)) :
    Calls Try.prog 85 #[.slice a n c, .int .i64 x, .agg (livA h)] w fun e w' => e = .returned (.int .i64 (lw h n x n : Nat)) ∧ Below w.heap.size w w' := by
  obtain ⟨a', b, off, cap, hva, hle, ha, hcap, hc⟩ := Ops.nat hv
  injection hva with e1 _ e3
  subst e1 e3
  have hix := run_ix (P := Try.prog) (t := 29) (a := a) (len := n) (cap := c) (b := b) (off := off) (s := 3) Try.underlying29 (by intro w; kernel_rfl) (fun h => ha (by omega))
  have h40 := hh.le
  have Hc := Lib.hid hc
  have Hix := Lib.hid hix
  have HH := Lib.hid hh
  have hw0 : IntKind.i64.wrap ((n : Int) - 1) = (n : Int) - 1 := IntWalk.i64_in _ ⟨by omega, by omega⟩
  clear ha hv hc hix hcap hh hle
  have HB := Lib.hid (blk_new w 70 21 (lvF h h.length))
  have hla : livA h = row 21 (lvF h h.length) := rfl
  rw [hla]
  clear hla
  generalize hL : row 21 (lvF h h.length) = L at *
  clear hL
  go_enter Try.func85, Try.ntmps85
  go_wp2_with fail
  have Hb1 := Lib.hid (below_alloc w (.cells L 70))
  generalize w.alloc (.cells L 70) = w1 at *
  go_loopw [7] (fun i wr => ∃ j : Nat, i = .int .i64 ((j : Int) - 1) ∧ j ≤ n ∧ Below w1.heap.size w1 wr ∧ lw h n x n = lw h n x j) (fun i _ => (intOf i + 1).toNat)
  case atStart => exact ⟨n, rfl, Nat.le_refl _, Below.refl _ _, rfl⟩
  case round =>
    obtain ⟨j, rfl, hj, hb, hin⟩ := hrel
    have Hb := Lib.hid hb
    have Hin := Lib.hid hin
    clear hb hin
    cases j with
    | zero =>
      have R := Lib.hid (show (0 : Nat) = lw h n x n by rw [Hin.out]; rfl)
      have q0 : ¬ (((0 : Nat) : Int) - 1) ≥ 0 := by omega
      go_wp2_with fail
      go_ret
      exact ⟨by rw [← R.out]; rfl, Below.tr Hb1.out Hb.out⟩
    | succ m =>
      have Hbb := Lib.hid (Below.tr Hb1.out Hb.out)
      have hm : m < h.length := by omega
      have hmn : m < n := by omega
      have hc1 := Below.keep Hbb.out (Hc.out m hm).1
      have hc2 := Below.keep Hbb.out (Hc.out m hm).2.1
      have hc3 := Below.keep Hbb.out (Hc.out m hm).2.2
      have hixm := Hix.out m
      have ht6 := HH.out.t6 m hm
      have HB2 := Lib.hid (HB.out.keep Hb.out)
      have Hy := Lib.hid (show (tK h m = 1 ∧ tI h m = x ∧ n ≤ lv h h.length (14 + tT h m)) → tT h m = lw h n x n from fun hh => by
        rw [Hin.out, lw, if_pos (by rw [← lv_abo h (by omega)]; exact hh)])
      have Hn := Lib.hid (show ¬ (tK h m = 1 ∧ tI h m = x ∧ n ≤ lv h h.length (14 + tT h m)) → lw h n x n = lw h n x m from fun hh => by
        rw [Hin.out, lw, if_neg (by rw [← lv_abo h (by omega)]; exact hh)])
      obtain ⟨t, ht⟩ : ∃ t, t = tT h m := ⟨_, rfl⟩
      obtain ⟨q, hq⟩ : ∃ q, q = tK h m := ⟨_, rfl⟩
      obtain ⟨y, hy⟩ : ∃ y, y = tI h m := ⟨_, rfl⟩
      rw [← ht] at hc1 ht6 Hy Hn
      rw [← hq] at hc2 Hy Hn
      rw [← hy] at hc3 Hy Hn
      obtain ⟨ht1, ht2⟩ := ht6
      have hti : (t : Int) < 7 := by omega
      have ht0 : (0 : Int) ≤ (t : Int) := by omega
      have hz : ((m + 1 : Nat) : Int) - 1 = (m : Int) := by omega
      rw [hz]
      have hzw : IntKind.i64.wrap ((m : Int) - 1) = (m : Int) - 1 := IntWalk.i64_in _ ⟨by omega, by omega⟩
      have hge : (m : Int) ≥ 0 := by omega
      have dA := (HB2.out.keep (below_alloc wr (.cells #[.int .i64 t, .int .i64 q, .int .i64 y] 58))).at (show 14 + t < 21 by omega)
      unfold lvF at dA
      obtain ⟨A, hA⟩ : ∃ A, A = lv h h.length (14 + t) := ⟨_, rfl⟩
      rw [← hA] at dA Hy Hn
      have Hb3 := Lib.hid (Below.tr Hb.out (below_alloc wr (.cells #[.int .i64 t, .int .i64 q, .int .i64 y] 58)))
      clear ht hq hy hz hA
      by_cases h1 : q = 1
      · have q1 : ((q : Int) == 1) = true := by rw [beq_iff_eq]; omega
        by_cases h2 : y = x
        · have q2 : ((y : Int) == (x : Int)) = true := by rw [beq_iff_eq]; omega
          by_cases h3 : n ≤ A
          · have R := Lib.hid (Hy.out ⟨h1, h2, h3⟩)
            clear h1 h2
            go_wp2_with fail
            go_ret
            exact ⟨by rw [← R.out]; rfl, Below.tr Hb1.out Hb3.out⟩
          · have R := Lib.hid (Hn.out fun h => h3 h.2.2)
            clear h1 h2
            go_wp2_with fail
            go_roundw
            case rel => exact ⟨m, rfl, by omega, Hb3.out, R.out⟩
            case measure => simp [intOf]
        · have q2 : ((y : Int) == (x : Int)) = false := by rw [beq_eq_false_iff_ne]; omega
          have R := Lib.hid (Hn.out fun h => h2 h.2.1)
          clear h1 h2
          go_wp2_with fail
          go_roundw
          case rel => exact ⟨m, rfl, by omega, Hb3.out, R.out⟩
          case measure => simp [intOf]
      · have q1 : ((q : Int) == 1) = false := by rw [beq_eq_false_iff_ne]; omega
        have R := Lib.hid (Hn.out fun h => h1 h.1)
        clear h1
        go_wp2_with fail
        go_roundw
        case rel => exact ⟨m, rfl, by omega, Hb3.out, R.out⟩
        case measure => simp [intOf]
theorem Blk.all21 {w : World} {b : Nat} {t : TypeId} {f : Nat → Value} (h : Blk w b t 21 f) : w.cell? ⟨b, 0, none⟩ = some (f 0) ∧ w.cell? ⟨b, 1, none⟩ = some (f 1) ∧ w.cell? ⟨b, 2, none⟩ = some (f 2) ∧ w.cell? ⟨b, 3, none⟩ = some (f 3) ∧ w.cell? ⟨b, 4, none⟩ = some (f 4) ∧ w.cell? ⟨b, 5, none⟩ = some (f 5) ∧ w.cell? ⟨b, 6, none⟩ = some (f 6) ∧ w.cell? ⟨b, 7, none⟩ = some (f 7) ∧ w.cell? ⟨b, 8, none⟩ = some (f 8) ∧ w.cell? ⟨b, 9, none⟩ = some (f 9) ∧ w.cell? ⟨b, 10, none⟩ = some (f 10) ∧ w.cell? ⟨b, 11, none⟩ = some (f 11) ∧ w.cell? ⟨b, 12, none⟩ = some (f 12) ∧ w.cell? ⟨b, 13, none⟩ = some (f 13) ∧ w.cell? ⟨b, 14, none⟩ = some (f 14) ∧ w.cell? ⟨b, 15, none⟩ = some (f 15) ∧ w.cell? ⟨b, 16, none⟩ = some (f 16) ∧ w.cell? ⟨b, 17, none⟩ = some (f 17) ∧ w.cell? ⟨b, 18, none⟩ = some (f 18) ∧ w.cell? ⟨b, 19, none⟩ = some (f 19) ∧ w.cell? ⟨b, 20, none⟩ = some (f 20) :=
  ⟨h.at (by omega), h.at (by omega), h.at (by omega), h.at (by omega), h.at (by omega), h.at (by omega), h.at (by omega), h.at (by omega), h.at (by omega), h.at (by omega), h.at (by omega), h.at (by omega), h.at (by omega), h.at (by omega), h.at (by omega), h.at (by omega), h.at (by omega), h.at (by omega), h.at (by omega), h.at (by omega), h.at (by omega)⟩
theorem livA_eq (h : List NOp) : livA h = #[.int .i64 (lv h h.length 0 : Nat), .int .i64 (lv h h.length 1 : Nat), .int .i64 (lv h h.length 2 : Nat), .int .i64 (lv h h.length 3 : Nat), .int .i64 (lv h h.length 4 : Nat), .int .i64 (lv h h.length 5 : Nat), .int .i64 (lv h h.length 6 : Nat), .int .i64 (lv h h.length 7 : Nat), .int .i64 (lv h h.length 8 : Nat), .int .i64 (lv h h.length 9 : Nat), .int .i64 (lv h h.length 10 : Nat), .int .i64 (lv h h.length 11 : Nat), .int .i64 (lv h h.length 12 : Nat), .int .i64 (lv h h.length 13 : Nat), .int .i64 (lv h h.length 14 : Nat), .int .i64 (lv h h.length 15 : Nat), .int .i64 (lv h h.length 16 : Nat), .int .i64 (lv h h.length 17 : Nat), .int .i64 (lv h h.length 18 : Nat), .int .i64 (lv h h.length 19 : Nat), .int .i64 (lv h h.length 20 : Nat)] := rfl
/-- a load of a whole block, as one step of a region that draws -/
theorem step_load_row {P : Program} {ops : Array Oper} {o : Oper} {a : Act} {w : World} {K : Act → World → Prop} {Q : Exit → Act → World → Prop} {E : Prop} (hgd : o.guard = none) (ty : TypeId) (x : Operand) (ho : o.op = .load ty x)
    (g : Nat) (hx : a.eval x = .pointer (some ⟨g, 0, none⟩)) (t : TypeId) (cs : Array Value) (fr : Nat × Nat) (d : TypeDesc) (hg : w.heap[g]? = some (.cells cs t fr))
    (hu : P.underlying ty = some d) (hd : (match d with | .struct _ | .array _ _ => true | _ => false) = true) (hi : (P.info? ty).map (·.size) = some cs.size)
    (h : K (a.put o.dst (.agg cs)) w) : if Region.wanted o (yielded ops a.tmps) = true then Oper.wp P o a w K Q else E := by
  rw [if_pos (show Region.wanted o (yielded ops a.tmps) = true by simp [Region.wanted, hgd])]
  exact wp_load_row ty x ho g hx t cs fr d hg hu hd hi h
/-- from which transaction operation i reads -/
def frm (h : List NOp) (i : Nat) : Int := if tK h i = 0 then (lw h i (tI h i) i : Nat) else -1
def frmRow (h : List NOp) (k : Nat) : List Int := (List.range h.length).map fun i => if i < k then frm h i else 0
theorem frmRow_length (h : List NOp) (k : Nat) : (frmRow h k).length = h.length := by simp [frmRow]
theorem frmRow_set (h : List NOp) (k : Nat) : (frmRow h k).set k (frm h k) = frmRow h (k + 1) := by
  apply List.ext_getElem (by simp [frmRow])
  intro i h1 h2
  simp only [List.length_set, frmRow_length] at h1
  rw [List.getElem_set]
  by_cases e : k = i
  · subst e; simp [frmRow]
  · rw [if_neg e]
    simp only [frmRow, List.getElem_map, List.getElem_range]
    by_cases e2 : i < k
    · rw [if_pos e2, if_pos (by omega)]
    · rw [if_neg e2, if_neg (by omega)]
def froms (h : List NOp) : List Int := (List.range h.length).map (frm h)
theorem frmRow_full (h : List NOp) : frmRow h h.length = froms h := by
  apply List.ext_getElem (by simp [frmRow, froms])
  intro i h1 h2
  simp only [frmRow_length] at h1
  simp [frmRow, froms, h1]
def FrmRow (w : World) (base blk : Nat) (h : List NOp) (xs : List Int) : Prop := w.ownsRow base 3 1 (.slice (some ⟨blk, 0, none⟩) h.length h.length) h.length (xs.map (Value.int .i64))
set_option maxRecDepth 100000 in
set_option maxHeartbeats 8000000 in
theorem from_any {h : List NOp} (hh : VH h) (v : Value) (w : World) (hv : Ops w v (castO h)) :
    Calls Try.prog 48 #[v] w fun e w' => ∃ v', e = .returned v' ∧ Ints w' v' (froms h) ∧ Below w.heap.size w w' := by
  have HL := Lib.hid (livesOf_any hh v w hv)
  obtain ⟨a, b, off, cap, rfl, hle, ha, hcap, hc⟩ := Ops.nat hv
  have hix := run_ix (P := Try.prog) (t := 29) (a := a) (len := h.length) (cap := cap) (b := b) (off := off) (s := 3) Try.underlying29 (by intro w; kernel_rfl) ha
  have hsub := fun k (hk : k ≤ h.length) w => Ops.sub (P := Try.prog) (a := a) (k := k) Try.underlying29 (by intro w; kernel_rfl) hcap hk w
  obtain ⟨i0, hi, hz⟩ : ∃ i0, Try.prog.info? 3 = some i0 ∧ (i0.zero, i0.size, i0.bytes) = (some (.int .i64 0), 1, 8) := by
    have := infoInt
    cases h : Try.prog.info? 3 with
    | none => rw [h] at this; cases this
    | some i0 => rw [h] at this; exact ⟨i0, rfl, by simpa using this⟩
  simp only [Prod.mk.injEq] at hz
  have h40 := hh.le
  have Hi := Lib.hid hi
  have Hz0 := Lib.hid hz.1
  have Hz1 := Lib.hid hz.2.1
  have Hby := Lib.hid (show i0.bytes * h.length ≤ 281474976710656 by rw [hz.2.2]; omega)
  have Hc := Lib.hid hc
  have Hix := Lib.hid hix
  have Hsub := Lib.hid hsub
  have HH := Lib.hid hh
  have Hv := Lib.hid hv
  clear ha hv hc hix hcap hh hle hi hz hsub
  go_enter Try.func48, Try.ntmps48
  go_wp2_with fail
  refine HL.out.mono ?_
  rintro e w1 ⟨rfl, hb1⟩
  have Hb1 := Lib.hid hb1
  clear hb1 HL
  have hla : livA h = row 21 (lvF h h.length) := rfl
  rw [hla]
  have hLs : (Try.prog.info? 70).map (·.size) = some (row 21 (lvF h h.length)).size := by rw [row_size]; exact sizeLives
  have hL1 := row_one h h.length
  have hZ : #[Value.int .i64 0, .int .i64 0, .int .i64 0, .int .i64 0, .int .i64 0, .int .i64 0, .int .i64 0, .int .i64 0, .int .i64 0, .int .i64 0, .int .i64 0, .int .i64 0, .int .i64 0, .int .i64 0, .int .i64 0, .int .i64 0, .int .i64 0, .int .i64 0, .int .i64 0, .int .i64 0, .int .i64 0].size = (row 21 (lvF h h.length)).size := by rw [row_size]; rfl
  have HBk := Lib.hid (fun w : World => show Blk ((w.alloc (.cells #[.int .i64 0, .int .i64 0, .int .i64 0, .int .i64 0, .int .i64 0, .int .i64 0, .int .i64 0, .int .i64 0, .int .i64 0, .int .i64 0, .int .i64 0, .int .i64 0, .int .i64 0, .int .i64 0, .int .i64 0, .int .i64 0, .int .i64 0, .int .i64 0, .int .i64 0, .int .i64 0, .int .i64 0] 70)).setRow w.heap.size (row 21 (lvF h h.length))) w.heap.size 70 21 (lvF h h.length) from (blk_new w 70 21 fun _ => .int .i64 0).setRow _)
  have HLs := Lib.hid hLs
  have HL1 := Lib.hid hL1
  have HZ := Lib.hid hZ
  generalize hL : row 21 (lvF h h.length) = L at *
  have HLe := Lib.hid hL
  clear hL hLs hL1 hZ hla
  go_wp2_with (first | (refine wpList_store_row rfl 70 (.tmp 3) (.tmp 8) rfl w1.heap.size L rfl rfl 70 _ (heap_alloc_new _ _) HLs.out HZ.out HL1.out ?_; have HB2 := Lib.hid (HBk.out w1); have Hb2 := Lib.hid (show Below w.heap.size w ((w1.alloc (.cells #[.int .i64 0, .int .i64 0, .int .i64 0, .int .i64 0, .int .i64 0, .int .i64 0, .int .i64 0, .int .i64 0, .int .i64 0, .int .i64 0, .int .i64 0, .int .i64 0, .int .i64 0, .int .i64 0, .int .i64 0, .int .i64 0, .int .i64 0, .int .i64 0, .int .i64 0, .int .i64 0, .int .i64 0] 70)).setRow w1.heap.size L) from below_setRow (Below.tr Hb1.out (below_alloc _ _)) Hb1.out.size _); generalize (w1.alloc (.cells #[.int .i64 0, .int .i64 0, .int .i64 0, .int .i64 0, .int .i64 0, .int .i64 0, .int .i64 0, .int .i64 0, .int .i64 0, .int .i64 0, .int .i64 0, .int .i64 0, .int .i64 0, .int .i64 0, .int .i64 0, .int .i64 0, .int .i64 0, .int .i64 0, .int .i64 0, .int .i64 0, .int .i64 0] 70)).setRow w1.heap.size L = w2 at *) | (refine wpList_make_full _ rfl (.tmp 10) (.tmp 10) 24 rfl w2.heap.size 3 i0 (.int .i64 0) 1 Try.underlying24 Hi.out Hz0.out Hz1.out .i64 .i64 _ _ h.length rfl rfl rfl rfl Hby.out (by unfold maxLen; omega) (Nat.le_refl _) ?_; intro w3 hown hgr))
  have hrow : FrmRow w3 w2.heap.size w2.heap.size h (frmRow h 0) := by
    have e : (madeCells (Value.int IntKind.i64 0).cells (h.length * 1)).toList = (frmRow h 0).map (Value.int .i64) := by
      rw [Nat.mul_one]
      show (madeCells #[Value.int .i64 0] h.length).toList = _
      rw [toList_madeCells_one]
      apply List.ext_getElem (by simp [frmRow])
      intro i h1 h2
      simp [frmRow]
    rw [e] at hown
    exact hown
  have Hrow := Lib.hid hrow
  have hb23 : Below w2.heap.size w2 w3 := ⟨hgr.os, hgr.tape, hgr.output, hgr.size, fun k hk => hgr.block k hk (by simp)⟩
  have Hb3 := Lib.hid (Below.tr Hb2.out hb23)
  have HB3 := Lib.hid (HB2.out.keep hb23)
  have Hw12 := Lib.hid HB2.out.lt
  have Hww := Lib.hid Hb2.out.size
  have hixl := run_ix (P := Try.prog) (t := 24) (a := some ⟨w2.heap.size, 0, none⟩) (len := h.length) (cap := h.length) (b := w2.heap.size) (off := 0) (s := 1) Try.underlying24 (by intro w; kernel_rfl) (fun _ => rfl)
  simp only [Nat.mul_one, Nat.zero_add] at hixl
  have Hixl := Lib.hid hixl
  clear hown hgr hrow hb23 hixl HBk HLs HL1 HZ
  go_loopw [14] (fun i wr => ∃ k : Nat, i = .int .i64 k ∧ k ≤ h.length ∧ Below w.heap.size w wr ∧ Blk wr w1.heap.size 70 21 (lvF h h.length) ∧ FrmRow wr w2.heap.size w2.heap.size h (frmRow h k)) (fun i _ => h.length - (intOf i).toNat)
  case atStart => exact ⟨0, rfl, Nat.zero_le _, Hb3.out, HB3.out, Hrow.out⟩
  case round =>
    clear Hb3 HB3 Hrow
    obtain ⟨k, rfl, hk, hb, hB, hr⟩ := hrel
    have Hb := Lib.hid hb
    have HB := Lib.hid hB
    have Hr := Lib.hid hr
    clear hb hB hr
    by_cases hlt : k < h.length
    · have hc1 := Below.keep Hb.out (Hc.out k hlt).1
      have hc2 := Below.keep Hb.out (Hc.out k hlt).2.1
      have hc3 := Below.keep Hb.out (Hc.out k hlt).2.2
      have hixk := Hix.out k
      have hixlk := Hixl.out k
      have hsk := Hsub.out k hk
      have hlw := fun w' (hw' : Ops w' (.slice a h.length cap) (castO h)) => lastWriter_any HH.out (n := k) hk (tI h k) w' hw'
      rw [show livA h = L from HLe.out] at hlw
      have Hlw := Lib.hid hlw
      clear hlw
      have Hy := Lib.hid (show tK h k = 0 → frm h k = (lw h k (tI h k) k : Nat) from fun e => by unfold frm; rw [if_pos e])
      have Hn := Lib.hid (show tK h k ≠ 0 → frm h k = -1 from fun e => by unfold frm; rw [if_neg e])
      obtain ⟨t, ht⟩ : ∃ t, t = tT h k := ⟨_, rfl⟩
      obtain ⟨q, hq⟩ : ∃ q, q = tK h k := ⟨_, rfl⟩
      obtain ⟨x, hx⟩ : ∃ x, x = tI h k := ⟨_, rfl⟩
      rw [← ht] at hc1
      rw [← hq] at hc2 Hy Hn
      rw [← hx] at hc3 Hlw Hy
      clear ht hq hx
      -- the store of -1
      have hfz := World.ownsRow.frozenAt Hr.out k
      have hcell := World.ownsRow.cellAt Hr.out k (by omega)
      rw [List.getElem?_eq_getElem (by rw [List.length_map, frmRow_length]; exact hlt)] at hcell
      obtain ⟨c0, hc0⟩ : ∃ c0, c0 = ((frmRow h k).map (Value.int .i64))[k]'(by rw [List.length_map, frmRow_length]; exact hlt) := ⟨_, rfl⟩
      rw [← hc0] at hcell
      clear hc0
      have hkw : w2.heap.size < wr.heap.size := cell_lt hcell
      have Hr0 := (World.ownsRow.stored Hr.out k (.int .i64 (-1))).1
      rw [← List.map_set (f := Value.int .i64) (a := (-1 : Int))] at Hr0
      have Hr1 := Lib.hid (show FrmRow ((wr.setCell ⟨w2.heap.size, k, none⟩ (.int .i64 (-1))).alloc (.cells #[.int .i64 t, .int .i64 q, .int .i64 x] 58)) w2.heap.size w2.heap.size h ((frmRow h k).set k (-1)) from World.ownsRow.alloc Hr0 _)
      have Hb1' := Lib.hid (show Below w.heap.size w ((wr.setCell ⟨w2.heap.size, k, none⟩ (.int .i64 (-1))).alloc (.cells #[.int .i64 t, .int .i64 q, .int .i64 x] 58)) from Below.tr (Hb.out.setCell (p := ⟨w2.heap.size, k, none⟩) (show w.heap.size ≤ w2.heap.size from Hww.out) _) (below_alloc _ _))
      have HB1 := Lib.hid (show Blk ((wr.setCell ⟨w2.heap.size, k, none⟩ (.int .i64 (-1))).alloc (.cells #[.int .i64 t, .int .i64 q, .int .i64 x] 58)) w1.heap.size 70 21 (lvF h h.length) from Blk.keep (HB.out.other (by have := Hw12.out; omega) _) (below_alloc _ _))
      have HE := Lib.hid (show ((wr.setCell ⟨w2.heap.size, k, none⟩ (.int .i64 (-1))).alloc (.cells #[.int .i64 t, .int .i64 q, .int .i64 x] 58)).cell? ⟨wr.heap.size, 1, none⟩ = some (.int .i64 q) ∧ ((wr.setCell ⟨w2.heap.size, k, none⟩ (.int .i64 (-1))).alloc (.cells #[.int .i64 t, .int .i64 q, .int .i64 x] 58)).cell? ⟨wr.heap.size, 2, none⟩ = some (.int .i64 x) from by
        have e1 := cell_new (wr.setCell ⟨w2.heap.size, k, none⟩ (.int .i64 (-1))) #[.int .i64 t, .int .i64 q, .int .i64 x] 58 1
        have e2 := cell_new (wr.setCell ⟨w2.heap.size, k, none⟩ (.int .i64 (-1))) #[.int .i64 t, .int .i64 q, .int .i64 x] 58 2
        rw [show (wr.setCell ⟨w2.heap.size, k, none⟩ (.int .i64 (-1))).heap.size = wr.heap.size by simp] at e1 e2
        exact ⟨e1, e2⟩)
      clear Hr0
      go_upto_region 7 with fail
      clear hc1 hc2 hc3 hfz hcell hixk
      generalize (wr.setCell ⟨w2.heap.size, k, none⟩ (.int .i64 (-1))).alloc (.cells #[.int .i64 t, .int .i64 q, .int .i64 x] 58) = w4 at *
      obtain ⟨he1, he2⟩ := HE.out
      by_cases hq0 : q = 0
      · have q0 : ((q : Int) == 0) = true := by rw [beq_iff_eq]; omega
        have hf := Hy.out hq0
        have Hf := Lib.hid hf
        clear hf
        have Hfin := Lib.hid (fun (w5 : World) (hr5 : FrmRow w5 w2.heap.size w2.heap.size h ((frmRow h k).set k (-1))) (hb5 : Below w4.drew.heap.size w4.drew w5) => (show Below w.heap.size w (w5.setCell ⟨w2.heap.size, k, none⟩ (.int .i64 (lw h k x k : Nat))) ∧ Blk (w5.setCell ⟨w2.heap.size, k, none⟩ (.int .i64 (lw h k x k : Nat))) w1.heap.size 70 21 (lvF h h.length) ∧ FrmRow (w5.setCell ⟨w2.heap.size, k, none⟩ (.int .i64 (lw h k x k : Nat))) w2.heap.size w2.heap.size h (frmRow h (k + 1)) from
          ⟨(Below.tr (Hb1'.out.drew) hb5).setCell (p := ⟨w2.heap.size, k, none⟩) Hww.out _, (Blk.keep (by exact HB1.out) hb5).other (by have := Hw12.out; omega) _, by
            have h1 := (World.ownsRow.stored hr5 k (.int .i64 (lw h k x k : Nat))).1
            rw [← List.map_set (f := Value.int .i64) (a := ((lw h k x k : Nat) : Int)), List.set_set, ← Hf.out, frmRow_set] at h1
            rw [← Hf.out]
            exact h1⟩))
        have Hv4 := Lib.hid (Ops.keep Hv.out Hb1'.out)
        go_wp2_with fail
        clear hixlk hsk
        have hixlk := Hixl.out k
        have hsk := Hsub.out k hk
        refine wp_region_any (by kernel_rfl) ?_
        change wpAny _ _ _ _ _ _ _ (World.drew _)
        refine wpAny_take (i := 0) (v := ?_) rfl (by kernel_rfl) (by kernel_rfl) (by kernel_rfl) (fun _ _ _ h => h) (Or.inl ⟨by rfl, ?_⟩) ?_
        rotate_left
        focus (first | (intro w; go_simp; done) | (intro w; go_simp; with_reducible rfl))
        simp only [Act.put, List.getElem_toArray, List.getElem_cons_zero, List.setIfInBounds_toArray, List.set_cons_zero, List.set_cons_succ]
        refine wpAny_take (i := 1) (v := ?_) rfl (by kernel_rfl) (by kernel_rfl) (by kernel_rfl) (fun _ _ _ h => h) (Or.inl ⟨by rfl, ?_⟩) ?_
        rotate_left
        focus (first | (intro w; go_simp; done) | (intro w; go_simp; with_reducible rfl))
        simp only [Act.put, List.getElem_toArray, List.getElem_cons_zero, List.getElem_cons_succ, List.setIfInBounds_toArray, List.set_cons_zero, List.set_cons_succ]
        refine wpAny_take (i := 2) (v := ?_) rfl (by kernel_rfl) (by kernel_rfl) (by kernel_rfl) (fun _ _ _ h => h) (Or.inl ⟨by rfl, ?_⟩) ?_
        rotate_left
        focus (first | (intro w; go_simp; done) | (intro w; go_simp; with_reducible rfl))
        simp only [Act.put, List.getElem_toArray, List.getElem_cons_zero, List.getElem_cons_succ, List.setIfInBounds_toArray, List.set_cons_zero, List.set_cons_succ]
        refine wpAny_take (i := 3) (v := ?_) rfl (by kernel_rfl) (by kernel_rfl) (by kernel_rfl) (fun _ _ _ h => h) (Or.inl ⟨by rfl, ?_⟩) ?_
        rotate_left
        focus (first | (intro w; go_simp; done) | (intro w; go_simp; with_reducible rfl))
        simp only [Act.put, List.getElem_toArray, List.getElem_cons_zero, List.getElem_cons_succ, List.setIfInBounds_toArray, List.set_cons_zero, List.set_cons_succ]
        refine wpAny_take (i := 4) (v := ?_) rfl (by kernel_rfl) (by kernel_rfl) (by kernel_rfl) (fun _ _ _ h => h) (Or.inl ⟨by rfl, ?_⟩) ?_
        rotate_left
        focus (first | (intro w; go_simp; done) | (intro w; go_simp; with_reducible rfl))
        simp only [Act.put, List.getElem_toArray, List.getElem_cons_zero, List.getElem_cons_succ, List.setIfInBounds_toArray, List.set_cons_zero, List.set_cons_succ]
        refine wpAny_take (i := 5) (v := ?_) rfl (by kernel_rfl) (by kernel_rfl) (by kernel_rfl) (fun _ _ _ h => h) (Or.inl ⟨by rfl, ?_⟩) ?_
        rotate_left
        focus (first | (intro w; go_simp; done) | (intro w; go_simp; with_reducible rfl))
        simp only [Act.put, List.getElem_toArray, List.getElem_cons_zero, List.getElem_cons_succ, List.setIfInBounds_toArray, List.set_cons_zero, List.set_cons_succ]
        refine wpAny_ready (rs := [6, 7]) (by kernel_rfl) (by simp) ?_
        refine AllReady.cons rfl (fun K hK => ?_) ?_
        · go_simp
          refine hK _ _ ?_
          clear hK K
          refine wpAny_ready (rs := [7]) (by kernel_rfl) (by simp) ?_
          refine AllReady.cons rfl (fun K hK => ?_) AllReady.nil
          refine step_load_row rfl 70 (.tmp 3) rfl w1.heap.size rfl 70 L (0, 0) _ (by rw [← HLe.out]; exact HB1.out) Try.underlying70 rfl (by rw [← HLe.out, row_size]; exact sizeLives) ?_
          simp only [Act.put, List.getElem_toArray, List.getElem_cons_zero, List.getElem_cons_succ, List.setIfInBounds_toArray, List.set_cons_zero, List.set_cons_succ]
          refine hK _ _ ?_
          clear hK K
          refine wpAny_ready (rs := [8]) (by kernel_rfl) (by simp) ?_
          refine AllReady.cons rfl (fun K hK => ?_) AllReady.nil
          go_simp
          go_at_call 85
          refine (Hlw.out _ (by exact Hv4.out)).mono ?_
          rintro e w5 ⟨rfl, hb5⟩
          have hr5 : FrmRow w5 w2.heap.size w2.heap.size h ((frmRow h k).set k (-1)) := owns_keep (by exact Hr1.out) hb5
          have hf5 := World.ownsRow.frozenAt hr5 k
          have hc5 := World.ownsRow.cellAt hr5 k (by omega)
          rw [List.getElem?_eq_getElem (by rw [List.length_map, List.length_set, frmRow_length]; exact hlt)] at hc5
          go_simp
          refine hK _ _ ?_
          clear hK K
          refine wpAny_take (i := 9) (v := ?_) rfl (by kernel_rfl) (by kernel_rfl) (by kernel_rfl) (fun _ _ _ h => h) (Or.inl ⟨by rfl, ?_⟩) ?_
          rotate_left
          focus (first | (intro w; go_simp; done) | (intro w; go_simp; with_reducible rfl))
          simp only [Act.put, List.getElem_toArray, List.getElem_cons_zero, List.getElem_cons_succ, List.setIfInBounds_toArray, List.set_cons_zero, List.set_cons_succ]
          refine wpAny_ready (rs := [10]) (by kernel_rfl) (by simp) ?_
          refine AllReady.cons rfl (fun K hK => ?_) AllReady.nil
          go_simp
          refine hK _ _ ?_
          clear hK K
          refine wpAny_done (by kernel_rfl) ?_ _
          have HR := Lib.hid (Hfin.out _ hr5 hb5)
          generalize w5.setCell ⟨w2.heap.size, k, none⟩ (.int .i64 (lw h k x k : Nat)) = w6 at *
          clear hr5 hf5 hc5 hb5
          go_wp2_with fail
          go_roundw
          case rel => exact ⟨k + 1, by go_num, by omega, HR.out.1, HR.out.2.1, HR.out.2.2⟩
          case measure => simp [intOf]; omega

        · refine AllReady.cons rfl (fun K hK => ?_) AllReady.nil
          refine step_load_row rfl 70 (.tmp 3) rfl w1.heap.size rfl 70 L (0, 0) _ (by rw [← HLe.out]; exact HB1.out) Try.underlying70 rfl (by rw [← HLe.out, row_size]; exact sizeLives) ?_
          simp only [Act.put, List.getElem_toArray, List.getElem_cons_zero, List.getElem_cons_succ, List.setIfInBounds_toArray, List.set_cons_zero, List.set_cons_succ]
          refine hK _ _ ?_
          clear hK K
          refine wpAny_ready (rs := [6]) (by kernel_rfl) (by simp) ?_
          refine AllReady.cons rfl (fun K hK => ?_) AllReady.nil
          go_simp
          refine hK _ _ ?_
          clear hK K
          refine wpAny_ready (rs := [8]) (by kernel_rfl) (by simp) ?_
          refine AllReady.cons rfl (fun K hK => ?_) AllReady.nil
          go_simp
          go_at_call 85
          refine (Hlw.out _ (by exact Hv4.out)).mono ?_
          rintro e w5 ⟨rfl, hb5⟩
          have hr5 : FrmRow w5 w2.heap.size w2.heap.size h ((frmRow h k).set k (-1)) := owns_keep (by exact Hr1.out) hb5
          have hf5 := World.ownsRow.frozenAt hr5 k
          have hc5 := World.ownsRow.cellAt hr5 k (by omega)
          rw [List.getElem?_eq_getElem (by rw [List.length_map, List.length_set, frmRow_length]; exact hlt)] at hc5
          go_simp
          refine hK _ _ ?_
          clear hK K
          refine wpAny_take (i := 9) (v := ?_) rfl (by kernel_rfl) (by kernel_rfl) (by kernel_rfl) (fun _ _ _ h => h) (Or.inl ⟨by rfl, ?_⟩) ?_
          rotate_left
          focus (first | (intro w; go_simp; done) | (intro w; go_simp; with_reducible rfl))
          simp only [Act.put, List.getElem_toArray, List.getElem_cons_zero, List.getElem_cons_succ, List.setIfInBounds_toArray, List.set_cons_zero, List.set_cons_succ]
          refine wpAny_ready (rs := [10]) (by kernel_rfl) (by simp) ?_
          refine AllReady.cons rfl (fun K hK => ?_) AllReady.nil
          go_simp
          refine hK _ _ ?_
          clear hK K
          refine wpAny_done (by kernel_rfl) ?_ _
          have HR := Lib.hid (Hfin.out _ hr5 hb5)
          generalize w5.setCell ⟨w2.heap.size, k, none⟩ (.int .i64 (lw h k x k : Nat)) = w6 at *
          clear hr5 hf5 hc5 hb5
          go_wp2_with fail
          go_roundw
          case rel => exact ⟨k + 1, by go_num, by omega, HR.out.1, HR.out.2.1, HR.out.2.2⟩
          case measure => simp [intOf]; omega

      · have q0 : ((q : Int) == 0) = false := by rw [beq_eq_false_iff_ne]; omega
        have HR := Lib.hid (show FrmRow w4 w2.heap.size w2.heap.size h (frmRow h (k + 1)) by
          have h1 := Hr1.out
          rw [← Hn.out hq0, frmRow_set] at h1
          exact h1)
        clear hq0
        go_wp2_with fail
        go_roundw
        case rel => exact ⟨k + 1, by go_num, by omega, Hb1'.out, HB1.out, HR.out⟩
        case measure => simp [intOf]; omega
    · obtain rfl : k = h.length := by omega
      have HI := Lib.hid (show Ints wr (.slice (some ⟨w2.heap.size, 0, none⟩) h.length h.length) (froms h) from by
        have h1 := Hr.out
        rw [frmRow_full] at h1
        have h2 := owns_rd h1
        unfold Ints
        rw [show (froms h).length = h.length by simp [froms]]
        exact h2)
      go_wp2_with fail
      go_ret
      exact ⟨_, rfl, HI.out, Hb.out⟩
#print axioms from_any
end Go.Proofs.Ytpehbffkplmfjaa

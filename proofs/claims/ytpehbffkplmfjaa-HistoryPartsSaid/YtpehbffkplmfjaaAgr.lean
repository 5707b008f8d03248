/- Contract of the reference's agrees. -/
import Derived.Test.YtpehbffkplmfjaaPms
namespace Go.Proofs.Ytpehbffkplmfjaa
open Go.RowKit

theorem agB_iff {E : Nat → Nat → Bool} : ∀ {p : List Nat}, agB E p = true ↔ ∀ a, a < p.length → ∀ b, b < a → E (p.getD a 0) (p.getD b 0) = false
  | [] => by simp [agB]
  | x :: p => by
    rw [agB, Bool.and_eq_true, agB_iff (p := p), List.all_eq_true]
    constructor
    · rintro ⟨h1, h2⟩ a ha b hb
      match a, b with
      | a + 1, 0 =>
        have hal : a < p.length := by simpa using ha
        have := h1 (p.getD a 0) (getD_mem hal)
        simpa using this
      | a + 1, b + 1 =>
        have := h2 a (by simpa using ha) b (by omega)
        simpa using this
    · intro h
      refine ⟨fun y hy => ?_, fun a ha b hb => ?_⟩
      · obtain ⟨i, hi, e⟩ := List.getElem_of_mem hy
        have := h (i + 1) (by simpa using hi) 0 (by omega)
        simp [List.getD_eq_getElem?_getD, hi, e] at this
        simp [this]
      · have := h (a + 1) (by simpa using ha) (b + 1) (by omega)
        simpa using this
/-- a table of edges as it lies in memory -/
def mat (E : Nat → Nat → Bool) : Array Value := row 49 fun j => .bool (E (j / 7) (j % 7))
theorem mat_at {w : World} {b : Nat} {E : Nat → Nat → Bool} (h : Blk w b 80 49 fun j => .bool (E (j / 7) (j % 7))) {x y : Nat} (hx : x < 7) (hy : y < 7) : w.cell? ⟨b, x * 7 + y, none⟩ = some (.bool (E x y)) := by
  rw [h.at (show x * 7 + y < 49 by omega)]
  rw [show (x * 7 + y) / 7 = x by omega, show (x * 7 + y) % 7 = y by omega]
theorem cells66 : Try.prog.cellsOf 66 = 7 := by kernel_rfl
set_option maxRecDepth 100000 in
set_option maxHeartbeats 8000000 in
theorem agrees_any {E : Nat → Nat → Bool} {p : List Nat} (h7 : ∀ x, x ∈ p → x < 7) (B : Bool) (hB : agB E p = B) (v : Value) (w : World) (hv : Ints w v (castN p)) :
    Calls Try.prog 84 #[v, .agg (mat E)] w fun e w' => e = .returned (.bool B) ∧ Below w.heap.size w w' := by
  have HB := Lib.hid (blk_new w 80 49 fun j => .bool (E (j / 7) (j % 7)))
  have hla : mat E = row 49 fun j => .bool (E (j / 7) (j % 7)) := rfl
  rw [hla]
  clear hla
  obtain ⟨a, b, off, cap, rfl, hle, ha, hc⟩ := IntsN.get hv
  have hcap : p.length ≤ cap := by have := hv.cap; rwa [castN_length] at this
  have hix := run_ix (P := Try.prog) (t := 24) (a := a) (len := p.length) (cap := cap) (b := b) (off := off) (s := 1) Try.underlying24 (by intro w; kernel_rfl) ha
  simp only [Nat.mul_one] at hix
  generalize hL : (row 49 fun j => .bool (E (j / 7) (j % 7))) = L at *
  have HM := Lib.hid (show ∀ x y, x < 7 → y < 7 → (w.alloc (.cells L 80)).cell? ⟨w.heap.size, x * 7 + y, none⟩ = some (.bool (E x y)) from fun x y hx hy => mat_at (E := E) (by rw [← hL]; exact blk_new w 80 49 fun j => .bool (E (j / 7) (j % 7))) hx hy)
  have Hto := Lib.hid (fun (k : Nat) (w' : World) (hk : k ≤ p.length) => run_to (P := Try.prog) (t := 24) (a := a) (len := p.length) (cap := cap) (s := 1) Try.underlying24 (by intro w; kernel_rfl) hcap k w' hk)
  have Hix2 := Lib.hid (fun (i : Nat) (hi : i ≤ p.length) => show ∀ (j : Nat) (w : World), j < i → (Instr.indexAt 24 (.slice a i cap) (.int .i64 j)).run Try.prog w = .ok (.pointer (some ⟨b, off + j, none⟩)) w from by
    have := run_ix (P := Try.prog) (t := 24) (a := a) (len := i) (cap := cap) (b := b) (off := off) (s := 1) Try.underlying24 (by intro w; kernel_rfl) (fun h => ha (by omega))
    simpa only [Nat.mul_one] using this)
  have Hc := Lib.hid hc
  have Hix := Lib.hid hix
  have H7 := Lib.hid h7
  have HBt := Lib.hid (fun h : (∀ a, a < p.length → ∀ b, b < a → E (p.getD a 0) (p.getD b 0) = false) => (show B = true by rw [← hB]; exact agB_iff.2 h))
  have HBf := Lib.hid (fun (a b : Nat) (ha : a < p.length) (hb : b < a) (h : E (p.getD a 0) (p.getD b 0) = true) => (show B = false by
    rw [← hB]
    cases e : agB E p with
    | false => rfl
    | true => rw [agB_iff.1 e a ha b hb] at h; cases h))
  clear hL hB hv hix hc ha h7 HB
  go_enter Try.func84, Try.ntmps84
  go_wp2_with fail
  have Hbw := Lib.hid (below_alloc w (.cells L 80))
  obtain ⟨w1, hw1⟩ : ∃ w1, w1 = w.alloc (.cells L 80) := ⟨_, rfl⟩
  rw [← hw1] at HM Hbw ⊢
  clear hw1
  go_loopw [11] (fun vi wr => ∃ i : Nat, vi = .int .i64 i ∧ i ≤ p.length ∧ w1 = wr ∧ ∀ a, a < i → ∀ b, b < a → E (p.getD a 0) (p.getD b 0) = false) (fun vi _ => p.length - (intOf vi).toNat)
  case atStart => exact ⟨0, rfl, Nat.zero_le _, rfl, fun a ha => by omega⟩
  case round =>
    obtain ⟨i, rfl, hi, rfl, hin⟩ := hrel
    have Hin := Lib.hid hin
    clear hin
    by_cases hlt : i < p.length
    · have hci := Below.keep Hbw.out (Hc.out i hlt)
      have hixi := Hix.out i
      have hto := fun w' => Hto.out i w' hi
      obtain ⟨x, hx⟩ : ∃ x, x = p.getD i 0 := ⟨_, rfl⟩
      have hx7 : x < 7 := by rw [hx]; exact H7.out _ (getD_mem hlt)
      rw [← hx] at hci
      have Hx := Lib.hid hx
      clear hx
      go_wp2_with fail
      go_loopw [20] (fun vj wr => ∃ j : Nat, vj = .int .i64 j ∧ j ≤ i ∧ w1 = wr ∧ ∀ b, b < j → E x (p.getD b 0) = false) (fun vj _ => i - (intOf vj).toNat)
      case atStart => exact ⟨0, rfl, Nat.zero_le _, rfl, fun a ha => by omega⟩
      case round =>
        obtain ⟨j, rfl, hj, rfl, hin2⟩ := hrel
        have Hin2 := Lib.hid hin2
        clear hin2
        by_cases hjl : j < i
        · have hcj := Below.keep Hbw.out (Hc.out j (by omega))
          have hixj := Hix2.out i hi j
          obtain ⟨y, hy⟩ : ∃ y, y = p.getD j 0 := ⟨_, rfl⟩
          have hy7 : y < 7 := by rw [hy]; exact H7.out _ (getD_mem (by omega))
          rw [← hy] at hcj
          have hmc := HM.out x y hx7 hy7
          have hz66 := cells66
          cases hE : E x y with
          | true =>
            have R := Lib.hid (HBf.out i j hlt hjl (by rw [← Hx.out, ← hy]; exact hE))
            rw [hE] at hmc
            clear hE hy
            go_wp2_with fail
            go_ret
            exact ⟨by rw [R.out]; rfl, Hbw.out⟩
          | false =>
            have R := Lib.hid (show ∀ b, b < j + 1 → E x (p.getD b 0) = false from fun b hb => by
              by_cases e : b = j
              · rw [e, ← hy]; exact hE
              · exact Hin2.out b (by omega))
            rw [hE] at hmc
            clear hE hy
            go_wp2_with fail
            go_roundw
            case rel => exact ⟨j + 1, by go_num, by omega, (by first | rfl | trivial), R.out⟩
            case measure => simp [intOf]; omega
        · obtain rfl : j = i := by omega
          have R := Lib.hid (show ∀ a, a < j + 1 → ∀ b, b < a → E (p.getD a 0) (p.getD b 0) = false from fun a ha b hb => by
            by_cases e : a = j
            · rw [e, ← Hx.out]; exact Hin2.out b (by omega)
            · exact Hin.out a (by omega) b hb)
          go_wp2_with fail
          go_roundw
          case rel => exact ⟨j + 1, by go_num, by omega, (by first | rfl | trivial), R.out⟩
          case measure => simp [intOf]; omega
    · obtain rfl : i = p.length := by omega
      have R := Lib.hid (HBt.out Hin.out)
      go_wp2_with fail
      go_ret
      exact ⟨by rw [R.out]; rfl, Hbw.out⟩
#print axioms agrees_any
end Go.Proofs.Ytpehbffkplmfjaa

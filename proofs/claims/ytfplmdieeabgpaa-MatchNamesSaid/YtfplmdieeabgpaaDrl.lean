/- Contract of dropLonely. -/
import Derived.Test.YtfplmdieeabgpaaGyb
import Derived.Test.YtfplmdieeabgpaaQx
import Derived.Test.YtfplmdieeabgpaaRws
namespace Go.Proofs.Ytfplmdieeabgpaa
open Go.RowKit
def cz (X : List Nat) : List Int := X.map fun x : Nat => (x : Int)
theorem cz_len (X : List Nat) : (cz X).length = X.length := by simp [cz]
theorem cz_get (X : List Nat) (i : Nat) : (cz X).getD i 0 = ((X.getD i 0 : Nat) : Int) := by
  simp only [cz, List.getD_eq_getElem?_getD, List.getElem?_map]
  cases X[i]? <;> rfl
/-- all of memory but one block is kept -/
structure Kp (g : Nat) (w w' : World) : Prop where
  os : w'.os = w.os
  tape : w'.tape = w.tape
  output : w'.output = w.output
  size : w'.heap.size = w.heap.size
  blk : ∀ b, b ≠ g → w'.heap[b]? = w.heap[b]?
theorem Kp.refl (g : Nat) (w : World) : Kp g w w := ⟨rfl, rfl, rfl, rfl, fun _ _ => rfl⟩
theorem Kp.tr {g : Nat} {w w' w'' : World} (h : Kp g w w') (k : Kp g w' w'') : Kp g w w'' := ⟨k.os.trans h.os, k.tape.trans h.tape, k.output.trans h.output, k.size.trans h.size, fun b hb => (k.blk b hb).trans (h.blk b hb)⟩
theorem Kp.below {g B : Nat} {w0 w w' : World} (h : Below B w0 w) (hg : B ≤ g) (k : Kp g w w') : Below B w0 w' :=
  ⟨k.os.trans h.os, k.tape.trans h.tape, k.output.trans h.output, by have := h.size; have := k.size; omega, fun b hb => (k.blk b (by omega)).trans (h.block b hb)⟩
theorem Kp.own {g B : Nat} {w w' : World} (k : Kp g w w') {v : Value} {l : List Int} (h : OwnInts B w v l) (hne : ∀ b, v.ownBlock = some b → b ≠ g) : OwnInts B w' v l :=
  own_block h fun b hb => k.blk b (hne b hb)
theorem own_setI {B : Nat} {w : World} {g n cap : Nat} {l : List Int} (h : OwnInts B w (.slice (some ⟨g, 0, none⟩) n cap) l) (hn : n = l.length) (k : Nat) (x : Int) :
    OwnInts B (w.setCell ⟨g, k, none⟩ (.int .i64 x)) (.slice (some ⟨g, 0, none⟩) n cap) (l.set k x) ∧ Kp g w (w.setCell ⟨g, k, none⟩ (.int .i64 x)) := by
  subst hn
  obtain ⟨h1, h2⟩ := World.ownsRow.stored h k (.int .i64 x)
  refine ⟨?_, h2.os, h2.tape, h2.output, by simp, fun b hb => heap_setCell_other w ⟨g, k, none⟩ b _ hb⟩
  unfold OwnInts
  rw [List.length_set, List.map_set]; exact h1
theorem ownI_cell {B : Nat} {w : World} {g n cap : Nat} {l : List Int} (h : OwnInts B w (.slice (some ⟨g, 0, none⟩) n cap) l) (hn : n = l.length) {k : Nat} (hk : k < l.length) :
    w.cell? ⟨g, k, none⟩ = some (.int .i64 (l.getD k 0)) := by
  subst hn
  have h1 := World.ownsRow.cellAt h k (by omega)
  rw [List.getElem?_map, List.getElem?_eq_getElem hk] at h1
  rw [h1, List.getD_eq_getElem?_getD, List.getElem?_eq_getElem hk]; rfl
def OnceP (L : Nat) (X : List Nat) (k O : Nat) : Prop := ∀ v, O.testBit v = true ↔ ∃ i, i < k ∧ mem' L i ∧ (X.getD i 0).testBit v = true
def TwiceP (L : Nat) (X : List Nat) (k T : Nat) : Prop := ∀ v, T.testBit v = true ↔ ∃ i j, i < j ∧ j < k ∧ mem' L i ∧ mem' L j ∧ (X.getD i 0).testBit v = true ∧ (X.getD j 0).testBit v = true
theorem once_0 (L : Nat) (X : List Nat) : OnceP L X 0 0 := fun v => ⟨fun h => by simp at h, fun ⟨i, h, _⟩ => by omega⟩
theorem twice_0 (L : Nat) (X : List Nat) : TwiceP L X 0 0 := fun v => ⟨fun h => by simp at h, fun ⟨i, j, _, h, _⟩ => by omega⟩
theorem once_in {L : Nat} {X : List Nat} {k O : Nat} (h : OnceP L X k O) (hm : mem' L k) : OnceP L X (k + 1) (O ||| X.getD k 0) := fun v => by
  rw [Nat.testBit_or, Bool.or_eq_true, h v]
  constructor
  · rintro (⟨i, h1, h2, h3⟩ | h1)
    · exact ⟨i, by omega, h2, h3⟩
    · exact ⟨k, by omega, hm, h1⟩
  · rintro ⟨i, h1, h2, h3⟩
    by_cases c : i = k
    · subst c; exact .inr h3
    · exact .inl ⟨i, by omega, h2, h3⟩
theorem once_out {L : Nat} {X : List Nat} {k O : Nat} (h : OnceP L X k O) (hm : ¬ mem' L k) : OnceP L X (k + 1) O := fun v => by
  rw [h v]
  constructor
  · rintro ⟨i, h1, h2, h3⟩; exact ⟨i, by omega, h2, h3⟩
  · rintro ⟨i, h1, h2, h3⟩
    by_cases c : i = k
    · subst c; exact absurd h2 hm
    · exact ⟨i, by omega, h2, h3⟩
theorem twice_in {L : Nat} {X : List Nat} {k O T : Nat} (h : OnceP L X k O) (ht : TwiceP L X k T) (hm : mem' L k) : TwiceP L X (k + 1) (T ||| (O &&& X.getD k 0)) := fun v => by
  rw [Nat.testBit_or, Bool.or_eq_true, Nat.testBit_and, Bool.and_eq_true, ht v, h v]
  constructor
  · rintro (⟨i, j, h1, h2, h3⟩ | ⟨⟨i, h1, h2, h3⟩, h4⟩)
    · exact ⟨i, j, h1, by omega, h3⟩
    · exact ⟨i, k, h1, by omega, h2, hm, h3, h4⟩
  · rintro ⟨i, j, h1, h2, h3, h4, h5, h6⟩
    by_cases c : j = k
    · subst c; exact .inr ⟨⟨i, h1, h3, h5⟩, h6⟩
    · exact .inl ⟨i, j, h1, by omega, h3, h4, h5, h6⟩
theorem twice_out {L : Nat} {X : List Nat} {k T : Nat} (h : TwiceP L X k T) (hm : ¬ mem' L k) : TwiceP L X (k + 1) T := fun v => by
  rw [h v]
  constructor
  · rintro ⟨i, j, h1, h2, h3⟩; exact ⟨i, j, h1, by omega, h3⟩
  · rintro ⟨i, j, h1, h2, h3, h4, h5⟩
    by_cases c : j = k
    · subst c; exact absurd h4 hm
    · exact ⟨i, j, h1, by omega, h3, h4, h5⟩
def mx (X : List Nat) (T k : Nat) : List Nat := (X.take k).map (· &&& T) ++ X.drop k
theorem mx_len (X : List Nat) (T : Nat) {k : Nat} (hk : k ≤ X.length) : (mx X T k).length = X.length := by simp [mx]; omega
theorem mx_get {X : List Nat} {T k : Nat} (hk : k < X.length) : (mx X T k).getD k 0 = X.getD k 0 := by
  simp only [mx, List.getD_eq_getElem?_getD]
  rw [List.getElem?_append_right (by simp; omega)]
  simp [Nat.min_eq_left (Nat.le_of_lt hk)]
theorem mx_set {X : List Nat} {T k : Nat} (hk : k < X.length) : (cz (mx X T k)).set k ((X.getD k 0 &&& T : Nat) : Int) = cz (mx X T (k + 1)) := by
  have e : X.getD k 0 = X[k] := by rw [List.getD_eq_getElem?_getD, List.getElem?_eq_getElem hk]; rfl
  unfold cz mx
  rw [List.take_succ_eq_append_getElem hk, List.drop_eq_getElem_cons hk, List.map_append, List.map_append, List.map_append, List.map_append, List.append_assoc]
  have hl : (List.map (fun x : Nat => (x : Int)) (List.map (· &&& T) (X.take k))).length = k := by simp; omega
  rw [List.set_append_right _ _ (by omega), hl, Nat.sub_self, List.map_cons, List.set_cons_zero, e]
  rfl
set_option maxRecDepth 100000 in
set_option maxHeartbeats 8000000 in
theorem dropL_any (X : List Nat) (L : Nat) (hL : L < 32) (hX : ∀ i, X.getD i 0 < 256) (hn : X.length ≤ 5) {base g cap : Nat} (w : World) (ho : OwnInts base w (.slice (some ⟨g, 0, none⟩) X.length cap) (cz X)) :
    Calls Try.prog 118 #[.slice (some ⟨g, 0, none⟩) X.length cap, .int .i64 (L : Nat)] w fun e w' => e = .returned (.tuple #[]) ∧ ∃ T, TwiceP L X X.length T ∧ OwnInts base w' (.slice (some ⟨g, 0, none⟩) X.length cap) (cz (X.map (· &&& T))) ∧ Kp g w w' := by
  have Hix := Lib.hid (run_ix (P := Try.prog) (t := 22) (a := some ⟨g, 0, none⟩) (len := X.length) (cap := cap) (b := g) (off := 0) (s := 1) Try.underlying22 (by intro w; kernel_rfl) (fun _ => rfl))
  simp only [Nat.zero_add, Nat.mul_one] at Hix
  have HX := Lib.hid hX
  have HO := Lib.hid ho
  have Hc := Lib.hid (show ∀ k, k < X.length → w.cell? ⟨g, k, none⟩ = some (.int .i64 (X.getD k 0 : Nat)) from fun k hk => by rw [ownI_cell ho (cz_len X).symm (by rw [cz_len]; exact hk), cz_get])
  obtain ⟨n, hn2⟩ : ∃ x, x = X.length := ⟨_, rfl⟩
  have Hn := Lib.hid hn2
  rw [← hn2] at HO Hix Hc hn ⊢
  clear ho hX hn2
  go_enter Try.func118, Try.ntmps118
  go_wp2_with fail
  go_loopw [4, 5, 11] (fun o t vi wr => ∃ k O T : Nat, o = .int .i64 (O : Nat) ∧ t = .int .i64 (T : Nat) ∧ vi = .int .i64 k ∧ k ≤ n ∧ wr = w ∧ O < 256 ∧ T < 256 ∧ OnceP L X k O ∧ TwiceP L X k T) (fun _ _ vi _ => n - (intOf vi).toNat)
  case atStart => exact ⟨0, 0, 0, rfl, rfl, rfl, Nat.zero_le _, rfl, by decide, by decide, once_0 L X, twice_0 L X⟩
  case round =>
    obtain ⟨k, O, T, rfl, rfl, rfl, hk, hwr, hO, hT, hP, hQ⟩ := hrel
    obtain rfl : w = wr := hwr.symm
    have HP := Lib.hid hP
    have HQ := Lib.hid hQ
    clear hP hQ
    by_cases hlt : k < n
    · have hck := Hc.out k hlt
      have hixk := Hix.out k
      have hx := HX.out k
      obtain ⟨x, hxe⟩ : ∃ x, x = X.getD k 0 := ⟨_, rfl⟩
      have Hxe := Lib.hid hxe
      rw [← hxe] at hck hx
      clear hxe
      have hn0 : (0 : Int) ≤ (k : Int) := by omega
      have hn64 : (k : Int) < 64 := by omega
      have t1 := qshr_bit L k (by omega)
      obtain ⟨P, hP, p1, p2, p3⟩ := qpow_name k (by omega)
      rw [p1] at t1
      clear hP
      by_cases h2 : L.testBit k = true
      · rw [if_pos h2] at t1
        have e1 := bits_and_nat O x (by omega) (by omega)
        have e2 := bits_or_nat T (O &&& x) (by omega) (by have := Nat.and_le_left (n := O) (m := x); omega)
        have e3 := bits_or_nat O x (by omega) (by omega)
        have l2 : T ||| (O &&& x) < 256 := Nat.or_lt_two_pow (n := 8) hT (by have := Nat.and_le_left (n := O) (m := x); omega)
        have l3 : O ||| x < 256 := Nat.or_lt_two_pow (n := 8) hO hx
        have HP2 := Lib.hid (once_in HP.out h2)
        have HQ2 := Lib.hid (twice_in HP.out HQ.out h2)
        rw [← Hxe.out] at HP2 HQ2
        obtain ⟨N1, hN1⟩ : ∃ N, N = O &&& x := ⟨_, rfl⟩
        rw [← hN1] at e1 e2 l2 HQ2
        obtain ⟨N2, hN2⟩ : ∃ N, N = T ||| N1 := ⟨_, rfl⟩
        rw [← hN2] at e2 l2 HQ2
        obtain ⟨N3, hN3⟩ : ∃ N, N = O ||| x := ⟨_, rfl⟩
        rw [← hN3] at e3 l3 HP2
        clear hN1 hN2 hN3 h2
        go_wp2_with fail
        go_roundw
        case rel => exact ⟨k + 1, N3, N2, rfl, rfl, by go_num, by omega, by first | rfl | trivial, l3, l2, HP2.out, HQ2.out⟩
        case measure => simp [intOf]; omega
      · rw [if_neg h2] at t1
        have HP2 := Lib.hid (once_out HP.out h2)
        have HQ2 := Lib.hid (twice_out HQ.out h2)
        clear h2
        go_wp2_with fail
        go_roundw
        case rel => exact ⟨k + 1, O, T, rfl, rfl, by go_num, by omega, by first | rfl | trivial, hO, hT, HP2.out, HQ2.out⟩
        case measure => simp [intOf]; omega
    · obtain rfl : n = k := by omega
      go_wp2_with fail
      go_loopw [32] (fun vi wr => ∃ k : Nat, vi = .int .i64 k ∧ k ≤ n ∧ OwnInts base wr (.slice (some ⟨g, 0, none⟩) n cap) (cz (mx X T k)) ∧ Kp g w wr) (fun vi _ => n - (intOf vi).toNat)
      case atStart => exact ⟨0, rfl, Nat.zero_le _, by rw [show mx X T 0 = X by simp [mx]]; exact HO.out, Kp.refl _ _⟩
      case round =>
        generalize wr = wx at *
        obtain ⟨j, rfl, hj, ho, hkp⟩ := hrel
        have Ho := Lib.hid ho
        have Hk := Lib.hid hkp
        clear ho hkp
        by_cases hlt : j < n
        · have hjX : j < X.length := by rw [← Hn.out]; exact hlt
          have hlen : n = (cz (mx X T j)).length := by rw [cz_len, mx_len X T (by omega)]; exact Hn.out
          have hcj := ownI_cell Ho.out hlen (k := j) (by rw [← hlen]; exact hlt)
          have hfj := World.ownsRow.frozenAt (show wx.ownsRow base 3 1 (.slice (some ⟨g, 0, none⟩) (cz (mx X T j)).length cap) (cz (mx X T j)).length ((cz (mx X T j)).map (Value.int .i64)) from by rw [← hlen]; have := Ho.out; unfold OwnInts at this; rw [← hlen] at this; exact this) j
          rw [cz_get, mx_get hjX] at hcj
          have hixj := Hix.out j
          have hx := HX.out j
          have HS := Lib.hid (mx_set (T := T) hjX)
          obtain ⟨x, hxe⟩ : ∃ x, x = X.getD j 0 := ⟨_, rfl⟩
          rw [← hxe] at hcj hx HS
          clear hxe hjX
          have Hlen := Lib.hid hlen
          clear hlen
          have e1 := bits_and_nat x T (by omega) (by omega)
          have l1 : x &&& T < 256 := by have := Nat.and_le_left (n := x) (m := T); omega
          obtain ⟨N, hN⟩ : ∃ N, N = x &&& T := ⟨_, rfl⟩
          rw [← hN] at e1 HS l1
          clear hN
          have HN := Lib.hid (show OwnInts base (wx.setCell ⟨g, j, none⟩ (.int .i64 N)) (.slice (some ⟨g, 0, none⟩) n cap) (cz (mx X T (j + 1))) ∧ Kp g w (wx.setCell ⟨g, j, none⟩ (.int .i64 N)) from by
            obtain ⟨k1, k2⟩ := own_setI Ho.out Hlen.out j N
            rw [HS.out] at k1
            exact ⟨k1, Hk.out.tr k2⟩)
          go_wp2_with fail
          go_roundw
          case rel => exact ⟨j + 1, by go_num, by omega, HN.out.1, HN.out.2⟩
          case measure => simp [intOf]; omega
        · obtain rfl : n = j := by omega
          have HF := Lib.hid (show OwnInts base wx (.slice (some ⟨g, 0, none⟩) n cap) (cz (X.map (· &&& T))) from by
            have := Ho.out
            rwa [show mx X T n = X.map (· &&& T) by unfold mx; rw [Hn.out, List.take_length, List.drop_length, List.append_nil]] at this)
          have HQ := Lib.hid (show TwiceP L X n T from HQ.out)
          go_wp2_with fail
          go_end0
          exact ⟨rfl, T, HQ.out, HF.out, Hk.out⟩
#print axioms dropL_any
end Go.Proofs.Ytfplmdieeabgpaa

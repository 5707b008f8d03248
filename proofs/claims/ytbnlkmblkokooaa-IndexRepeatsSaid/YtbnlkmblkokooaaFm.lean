/- Contracts of made, places, back, Count. -/
import Derived.Test.YtbnlkmblkokooaaIdx
import Derived.Test.YtbnlkmblkokooaaLf
namespace Go.Proofs.Ytbnlkmblkokooaa
open Go.RowKit
theorem Made.keep {B : Nat} {w w' : World} {v : Value} {l : Bs} (h : Made B w v l) (hb : Below w.heap.size w w') : Made B w' v l := by
  obtain ⟨g, tv, h1, h2, h3, h4⟩ := h
  exact ⟨g, tv, h1, h2, h3.keep hb, h4.keep hb⟩
theorem Made.draw {B : Nat} {w : World} {v : Value} {l : Bs} (h : Made B w v l) (q : Nat) : Made B (w.drewN q) v l := h.keep (bdrewN (Below.refl _ _) q)
theorem bel_eq (l : Bs) (c : UInt8) : bel l c = belN (tr l) c.toNat := by
  unfold bel belN tr
  rw [List.countP_map]
  refine List.countP_congr fun k _ => ?_
  simp [UInt8.lt_iff_toNat_lt]
theorem rk_eq (l : Bs) (c : UInt8) {i : Nat} (hi : i ≤ l.length + 1) : rk l c i = cnt c ((tr l).take i) := by
  unfold rk cnt tr
  rw [← List.map_take, List.countP_map, List.take_range, Nat.min_eq_left hi]
  rfl
set_option maxRecDepth 100000 in
theorem made_yes (g : Nat) (w : World) (h : w.cell? ⟨g, 0, none⟩ = some (.pointer (some ⟨g, 0, none⟩))) :
    Calls Try.prog 64 #[.pointer (some ⟨g, 0, none⟩)] w fun e w' => e = .returned (.bool true) ∧ w = w' := by
  obtain ⟨j, hj, _⟩ := Option.map_eq_some_iff.1 (show (Try.prog.info? 51).map (fun i => i.size) = some 259 by kernel_rfl)
  go_enter Try.func64, Try.ntmps64
  go_wp2
  rw [run_eql_ptr_same w ⟨g, 0, none⟩ Try.underlying34 hj]
  go_wp2
  go_ret
  exact ⟨rfl, rfl⟩
#print axioms made_yes
theorem letter_gt {c : UInt8} (h : letterB c = true) : 10 < c := by
  unfold letterB at h
  have := of_decide_eq_true h
  exact UInt8.lt_iff_toNat_lt.2 (by show 10 < c.toNat; omega)
/-- what places returns -/
def PlPost (l p : Bs) (w : World) (e : Ending) (w' : World) : Prop := e = .returned (.tuple #[.int .i64 (lo l p : Nat), .int .i64 (hi l p : Nat)]) ∧ ∃ q, w' = w.drewN q
set_option maxHeartbeats 4000000 in
set_option maxRecDepth 100000 in
theorem places_any {B : Nat} {l : Bs} {v : Value} {p : ByteArray} (hl : Lab l) (hp : Lab (bs p)) (w : World) (hm : Made B w v l) :
    Calls Try.prog 65 #[v, .string p] w (PlPost l (bs p) w) := by
  have hps := lab_size hp
  obtain ⟨g, tv, rfl, hB, hix, hnd⟩ := hm
  obtain ⟨n, hn⟩ : ∃ n, n = l.length + 1 := ⟨_, rfl⟩
  have hn1 : n ≤ 201 := by have := hl.1; omega
  have hlen : (tr l).length = n := by rw [tr_length, hn]
  rw [← hn] at hix
  obtain ⟨hc0, hc1, hc2⟩ := hix.head
  have HCb := Lib.hid (fun d (hd : d < 256) => hix.cell hd)
  have HR := Lib.hid (fun (c : UInt8) (i : Nat) (hi : i ≤ n) (q : Nat) => rank_any B _ (tr l) tv c i (w.drewN q) (hnd.draw q) (over_lets _) (by rw [hlen]; exact hi) (by rw [hlen]; omega))
  obtain ⟨m, hmm⟩ : ∃ m, m = p.size := ⟨_, rfl⟩
  have HM := Lib.hid hmm
  have hszm : (p.size : Int) = (m : Int) := by omega
  have hm1 : m ≤ 200 := by omega
  have HLo := Lib.hid (show ∀ k (h : k < m), lo l ((bs p).drop k) = belN (tr l) ((bs p).getD k 0).toNat + cnt ((bs p).getD k 0) ((tr l).take (lo l ((bs p).drop (k + 1)))) from fun k h => by
    have hk : k < (bs p).length := by rw [bs_len, ← hmm]; exact h
    have hg : (bs p).getD k 0 = (bs p)[k] := by simp [List.getD, List.getElem?_eq_getElem hk]
    rw [hg, List.drop_eq_getElem_cons hk, lo_cons l _ _ (letter_gt (hp.2 _ (List.getElem_mem hk))), bel_eq, rk_eq l _ (Nat.le_trans (count_le _ _) (hi_le _ _))])
  have HHi := Lib.hid (show ∀ k (h : k < m), hi l ((bs p).drop k) = belN (tr l) ((bs p).getD k 0).toNat + cnt ((bs p).getD k 0) ((tr l).take (hi l ((bs p).drop (k + 1)))) from fun k h => by
    have hk : k < (bs p).length := by rw [bs_len, ← hmm]; exact h
    have hg : (bs p).getD k 0 = (bs p)[k] := by simp [List.getD, List.getElem?_eq_getElem hk]
    rw [hg, List.drop_eq_getElem_cons hk, hi_cons l _ _ (letter_gt (hp.2 _ (List.getElem_mem hk))), bel_eq, rk_eq l _ (hi_le _ _)])
  have HLe := Lib.hid (show ∀ q, lo l q ≤ n ∧ hi l q ≤ n from fun q => by have h1 := count_le l q; have h2 := hi_le l q; omega)
  have H0 := Lib.hid (show lo l ((bs p).drop m) = 0 ∧ hi l ((bs p).drop m) = n from by
    have : (bs p).drop m = [] := List.drop_of_length_le (by rw [bs_len, ← hmm]; exact Nat.le_refl _)
    rw [this, lo_nil, hi_nil, hn]; exact ⟨rfl, rfl⟩)
  have HBe := Lib.hid (show ∀ d, belN (tr l) d ≤ n from fun d => by have := belN_le (tr l) d; omega)
  have HCn := Lib.hid (show ∀ c i, cnt c ((tr l).take i) ≤ n from fun c i => by
    unfold cnt
    have h1 := List.countP_le_length (p := (· == c)) (l := (tr l).take i)
    rw [List.length_take, hlen] at h1
    omega)
  have HN := Lib.hid hn
  clear hix hnd hn hlen hmm hl hp hps
  go_enter Try.func65, Try.ntmps65
  go_wp2_with fail
  go_quiet (fail)
  go_wp2_with fail
  go_loopw [4, 5, 6] (fun va vb vk wr => ∃ k : Nat, va = .int .i64 (lo l ((bs p).drop k) : Nat) ∧ vb = .int .i64 (hi l ((bs p).drop k) : Nat) ∧ vk = .int .i64 ((k : Int) - 1) ∧ k ≤ m ∧ ∃ d, wr = w.drewN d) (fun _ _ vk _ => (intOf vk + 1).toNat)
  case atStart => exact ⟨m, by rw [H0.out.1]; rfl, by rw [H0.out.2], rfl, Nat.le_refl _, nq, rfl⟩
  case round =>
    obtain ⟨k, rfl, rfl, rfl, hk, d, rfl⟩ := hrel
    clear nq
    cases k with
    | succ k =>
      have hkz : ((k + 1 : Nat) : Int) - 1 = (k : Int) := by omega
      rw [hkz]
      have hkp : k < p.size := by omega
      obtain ⟨c, hc⟩ : ∃ c, c = p[k] := ⟨_, rfl⟩
      have hcg : (bs p).getD k 0 = c := by
        rw [hc, bs_get hkp]
        simp [List.getD, List.getElem?_eq_getElem (show k < (bs p).length by rw [bs_len]; exact hkp)]
      have hlo := HLo.out k (by omega)
      have hhi := HHi.out k (by omega)
      rw [hcg] at hlo hhi
      obtain ⟨a, ha⟩ : ∃ a, a = lo l ((bs p).drop (k + 1)) := ⟨_, rfl⟩
      obtain ⟨b, hb⟩ : ∃ b, b = hi l ((bs p).drop (k + 1)) := ⟨_, rfl⟩
      obtain ⟨F, hF⟩ : ∃ F, F = belN (tr l) c.toNat := ⟨_, rfl⟩
      obtain ⟨A, hA⟩ : ∃ A, A = cnt c ((tr l).take a) := ⟨_, rfl⟩
      obtain ⟨C, hC⟩ : ∃ C, C = cnt c ((tr l).take b) := ⟨_, rfl⟩
      have han : a ≤ n := by rw [ha]; exact (HLe.out _).1
      have hbn : b ≤ n := by rw [hb]; exact (HLe.out _).2
      have hFn : F ≤ n := by rw [hF]; exact HBe.out _
      have hAn : A ≤ n := by rw [hA]; exact HCn.out _ _
      have hCn : C ≤ n := by rw [hC]; exact HCn.out _ _
      rw [← ha, ← hA, ← hF] at hlo
      rw [← hb, ← hC, ← hF] at hhi
      have HRa := Lib.hid (fun q => HR.out c a han q)
      have HRb := Lib.hid (fun q => HR.out c b hbn q)
      rw [← hA] at HRa
      rw [← hC] at HRb
      obtain ⟨x, hx⟩ : ∃ x, x = c.toNat := ⟨_, rfl⟩
      have hcF : w.cell? ⟨g, 3 + x, none⟩ = some (.int .i64 (F : Nat)) := by rw [hF, hx]; exact HCb.out c.toNat c.toNat_lt
      have hxl : x < 256 := by rw [hx]; exact c.toNat_lt
      have hxz : (x : Int) < 256 := by omega
      rw [← hx] at HRa HRb
      have HX := Lib.hid (show p[k].toNat = x by rw [hx, hc])
      have HLo1 := Lib.hid hlo
      have HHi1 := Lib.hid hhi
      have hs1 : IntKind.i64.wrap ((F : Int) + (A : Int)) = ((F + A : Nat) : Int) := by rw [IntWalk.i64_in _ ⟨by omega, by omega⟩]; omega
      have hs2 : IntKind.i64.wrap ((F : Int) + (C : Int)) = ((F + C : Nat) : Int) := by rw [IntWalk.i64_in _ ⟨by omega, by omega⟩]; omega
      rw [← ha, ← hb]
      clear ha hb hF hA hC hlo hhi hcg hc hx
      obtain ⟨w5, hw5⟩ : ∃ w5, w5 = w.drewN d := ⟨_, rfl⟩
      have hcF5 : w5.cell? ⟨g, 3 + x, none⟩ = some (.int .i64 (F : Nat)) := by rw [hw5]; exact hcF
      have hc15 : w5.cell? ⟨g, 1, none⟩ = w.cell? ⟨g, 1, none⟩ := by rw [hw5]; rfl
      rw [hc1] at hc15
      have HRa3 := Lib.hid (fun q => by have := HRa.out (d + q); rw [← World.drewN_drewN, ← hw5] at this; exact this)
      have HRb3 := Lib.hid (fun q => by have := HRb.out (d + q); rw [← World.drewN_drewN, ← hw5] at this; exact this)
      have HW5 := Lib.hid hw5
      rw [← hw5]
      clear hw5 HRa HRb
      go_wp2_with fail
      rw [HX.out]
      go_quiet ((go_at_call 67; exact Calls.quiet_of (HRa3.out _)))
      go_wp2_with fail
      obtain ⟨d1, hd1⟩ : ∃ d1, w5.drewN nq = w.drewN d1 := ⟨d + nq, by rw [HW5.out]; exact World.drewN_drewN _ _ _⟩
      obtain ⟨w6, hw6⟩ : ∃ w6, w6 = w5.drewN nq := ⟨_, rfl⟩
      have hcF6 : w6.cell? ⟨g, 3 + x, none⟩ = some (.int .i64 (F : Nat)) := by rw [hw6]; exact hcF5
      have hc16 : w6.cell? ⟨g, 1, none⟩ = w5.cell? ⟨g, 1, none⟩ := by rw [hw6]; rfl
      rw [hc15] at hc16
      have HRb4 := Lib.hid (fun q => by have := HRb3.out (nq + q); rw [← World.drewN_drewN, ← hw6] at this; exact this)
      rw [← hw6] at hd1 ⊢
      have HD1 := Lib.hid hd1
      clear hd1 nq hw6
      go_quiet ((go_at_call 67; exact Calls.quiet_of (HRb4.out _)))
      go_wp2_with fail
      go_roundw
      case rel => exact ⟨k, by rw [HLo1.out, Int.natCast_add], by rw [HHi1.out, Int.natCast_add], rfl, by omega, d1 + nq, by rw [HD1.out]; exact World.drewN_drewN _ _ _⟩
      case measure => simp [intOf] <;> omega
    | zero =>
      go_wp2_with fail
      go_ret2
      exact ⟨rfl, d, rfl⟩
#print axioms places_any
end Go.Proofs.Ytbnlkmblkokooaa

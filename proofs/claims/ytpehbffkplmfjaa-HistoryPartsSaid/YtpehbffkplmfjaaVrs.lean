/- Contracts of the reference's Seen and View. -/
import Derived.Test.YtpehbffkplmfjaaVrf
import Derived.Test.YtpehbffkplmfjaaFir
namespace Go.Proofs.Ytpehbffkplmfjaa
open Go.RowKit
def sameL (x y : List Int) : Bool := (List.range x.length).all fun i => decide (y.getD i 0 = x.getD i 0)
/-- an order is view equivalent, in the reference's words -/
def seenB (h : List NOp) (p : List Nat) : Bool := sameL (vrN (partN h)) (vrN (serN h p))
theorem sameL_at {x y : List Int} {k : Nat} (hk : k < x.length) (e : y.getD k 0 ≠ x.getD k 0) : sameL x y = false := by
  unfold sameL
  rw [List.all_eq_false]
  exact ⟨k, List.mem_range.2 hk, by simpa using e⟩
theorem sameL_all {x y : List Int} (h : ∀ i, i < x.length → y.getD i 0 = x.getD i 0) : sameL x y = true := by
  unfold sameL
  rw [List.all_eq_true]
  intro i hi
  exact decide_eq_true (h i (List.mem_range.1 hi))
set_option maxRecDepth 100000 in
set_option maxHeartbeats 4000000 in
theorem seen_any {h : List NOp} (hh : VH h) (h1 : VH (partN h)) {p : List Nat} (hp : p.length ≤ 7) (h2 : VH (serN h p)) (hlen : (vrN (partN h)).length ≤ (vrN (serN h p)).length) (B : Bool) (hB : seenB h p = B)
    (v : Value) (w : World) (hv : Ops w v (castO h)) (u : Value) (hu : Ints w u (castN p)) :
    Calls Try.prog 64 #[v, u] w fun e w' => e = .returned (.bool B) ∧ Below w.heap.size w w' := by
  have HP := Lib.hid (part_any hh v w hv)
  have HS := Lib.hid (fun w' (hb : Below w.heap.size w w') => serial_any hh v w' (Ops.keep hv hb) hp u (Ints.keep hu hb))
  have HV1 := Lib.hid (fun v w hv => viewR_any h1 v w hv)
  have HV2 := Lib.hid (fun v w hv => viewR_any h2 v w hv)
  unfold seenB at hB
  obtain ⟨x, hx⟩ : ∃ x, x = vrN (partN h) := ⟨_, rfl⟩
  obtain ⟨y, hy⟩ : ∃ y, y = vrN (serN h p) := ⟨_, rfl⟩
  rw [← hx] at HV1 hB hlen
  rw [← hy] at HV2 hB hlen
  obtain ⟨a, c, rfl⟩ := ops_slice hv
  obtain ⟨a2, c2, rfl⟩ := ints_slice hu
  have HBt := Lib.hid (fun (q : ∀ i, i < x.length → y.getD i 0 = x.getD i 0) => show B = true from by rw [← hB]; exact sameL_all q)
  have HBf := Lib.hid (fun (k : Nat) (hk : k < x.length) (q : y.getD k 0 ≠ x.getD k 0) => show B = false from by rw [← hB]; exact sameL_at hk q)
  have Hlen := Lib.hid hlen
  clear hv hu hh h1 h2 hB hx hy hlen hp
  go_enter Try.func64, Try.ntmps64
  go_wp2_with fail
  refine HP.out.mono ?_
  rintro e w1 ⟨v1, rfl, ho1, hb1⟩
  have Hb1 := Lib.hid hb1
  have HV1 := Lib.hid (HV1.out v1 w1 ho1.ops)
  clear ho1 hb1
  go_wp2_with fail
  refine HV1.out.mono ?_
  rintro e w2 ⟨v2, rfl, ho2, hb2⟩
  have Hb2 := Lib.hid (Below.tr Hb1.out hb2)
  have Hi2 := Lib.hid ho2.ints
  have HS2 := Lib.hid (HS.out w2 (Below.tr Hb1.out hb2))
  clear ho2 hb2
  go_wp2_with fail
  refine HS2.out.mono ?_
  rintro e w3 ⟨v3, rfl, ho3, hb3⟩
  have Hb3 := Lib.hid (Below.tr Hb2.out hb3)
  have Hi3 := Lib.hid (Hi2.out.keep hb3)
  have HV3 := Lib.hid (HV2.out v3 w3 ho3.ops)
  clear ho3 hb3
  go_wp2_with fail
  refine HV3.out.mono ?_
  rintro e w4 ⟨v4, rfl, ho4, hb4⟩
  have Hb4 := Lib.hid (Below.tr Hb3.out hb4)
  obtain ⟨ax, bx, ox, cx, rfl, _, hax, hcx⟩ := Ints.get (Hi3.out.keep hb4)
  obtain ⟨ay, by', oy, cy, rfl, _, hay, hcy⟩ := Ints.get ho4.ints
  have hixx := run_ix (P := Try.prog) (t := 24) (a := ax) (len := x.length) (cap := cx) (b := bx) (off := ox) (s := 1) Try.underlying24 (by intro w; kernel_rfl) hax
  have hixy := run_ix (P := Try.prog) (t := 24) (a := ay) (len := y.length) (cap := cy) (b := by') (off := oy) (s := 1) Try.underlying24 (by intro w; kernel_rfl) hay
  simp only [Nat.mul_one] at hixx hixy
  have Hixx := Lib.hid hixx
  have Hixy := Lib.hid hixy
  have Hcx := Lib.hid (show ∀ i, i < x.length → w4.cell? ⟨bx, ox + i, none⟩ = some (.int .i64 (x.getD i 0)) from fun i hi => by
    rw [hcx i hi, List.getD_eq_getElem?_getD, List.getElem?_eq_getElem hi]; rfl)
  have Hcy := Lib.hid (show ∀ i, i < y.length → w4.cell? ⟨by', oy + i, none⟩ = some (.int .i64 (y.getD i 0)) from fun i hi => by
    rw [hcy i hi, List.getD_eq_getElem?_getD, List.getElem?_eq_getElem hi]; rfl)
  clear ho4 hb4 hax hcx hay hcy hixx hixy HV1 HV2 HV3 HS HS2 HP
  go_wp2_with fail
  go_loopw [18] (fun vk wr => ∃ k : Nat, vk = .int .i64 k ∧ k ≤ x.length ∧ w4 = wr ∧ ∀ i, i < k → y.getD i 0 = x.getD i 0) (fun vk _ => x.length - (intOf vk).toNat)
  case atStart => exact ⟨0, rfl, Nat.zero_le _, rfl, fun i hi => by omega⟩
  case round =>
    obtain ⟨k, rfl, hk, rfl, hin⟩ := hrel
    have Hin := Lib.hid hin
    clear hin
    by_cases hlt : k < x.length
    · have hky : k < y.length := by have := Hlen.out; omega
      have hcx := Hcx.out k hlt
      have hcy := Hcy.out k hky
      have hixx := Hixx.out k
      have hixy := Hixy.out k
      have HBf1 := Lib.hid (HBf.out k hlt)
      have HBg := Lib.hid (fun (e : y.getD k 0 = x.getD k 0) => show ∀ i, i < k + 1 → y.getD i 0 = x.getD i 0 from fun i hi => by
        by_cases e2 : i = k
        · subst e2; exact e
        · exact Hin.out i (by omega))
      obtain ⟨p1, hp1⟩ : ∃ p1, p1 = x.getD k 0 := ⟨_, rfl⟩
      obtain ⟨p2, hp2⟩ : ∃ p2, p2 = y.getD k 0 := ⟨_, rfl⟩
      rw [← hp1] at hcx HBf1 HBg
      rw [← hp2] at hcy HBf1 HBg
      clear hp1 hp2
      by_cases e : p2 = p1
      · have R := Lib.hid (HBg.out e)
        have q : (p2 != p1) = false := by rw [bne_eq_false_iff_eq]; exact e
        clear e
        go_wp2_with fail
        go_roundw
        case rel => exact ⟨k + 1, by go_num, by omega, (by first | rfl | trivial), R.out⟩
        case measure => simp [intOf]; omega
      · have R := Lib.hid (HBf1.out e)
        have q : (p2 != p1) = true := by rw [bne_iff_ne]; exact e
        clear e
        go_wp2_with fail
        go_ret
        exact ⟨by rw [R.out]; rfl, Hb4.out⟩
    · obtain rfl : k = x.length := by omega
      have R := Lib.hid (HBt.out Hin.out)
      go_wp2_with fail
      go_ret
      exact ⟨by rw [R.out]; rfl, Hb4.out⟩
#print axioms seen_any
end Go.Proofs.Ytpehbffkplmfjaa

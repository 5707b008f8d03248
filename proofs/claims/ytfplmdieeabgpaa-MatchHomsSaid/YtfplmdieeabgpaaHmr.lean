/- Contract of the reference's Hom. -/
import Derived.Test.YtfplmdieeabgpaaTry
namespace Go.Proofs.Ytfplmdieeabgpaa
open Go.RowKit
theorem homRC_of {p q : HQ} (hpq : PairV p q) {w : World} {a : Addr} {n k : Nat} (h : TryR p q [] w (.slice (some a) n k)) : HomRC p q w (.slice (some a) n k) 0 := by
  rcases h with ⟨e, _⟩ | ⟨_, _, _, h, _, h2, h3, _, h5⟩
  · cases e
  · exact .inr (.inr ⟨hpq, rfl, h, h2, h3, fun h' H => h5 h' H (List.nil_prefix)⟩)
theorem homRC_no {p q : HQ} (hpq : PairV p q) {w w' : World} {n k : Nat} (h : TryR p q [] w (.slice none n k)) : HomRC p q w' (.slice none 0 0) 5 := by
  rcases h with ⟨e, h⟩ | ⟨_, _, _, h, e, _⟩
  · exact .inr (.inl ⟨hpq, fun h' H => h h' H List.nil_prefix, rfl, rfl⟩)
  · cases e
set_option maxRecDepth 100000 in
set_option maxHeartbeats 8000000 in
theorem homRef_any {p q : HQ} (v u : Value) (w : World) (hp : Qr w v p) (hq : Qr w u q) :
    Calls Try.prog 28 #[v, u] w fun e w' => ∃ a n k c, e = .returned (.tuple #[.slice a n k, .int .i64 c]) ∧ HomRC p q w' (.slice a n k) c ∧ Below w.heap.size w w' := by
  obtain ⟨h0, b0, rfl, hh, hb⟩ := hp
  obtain ⟨h1, b1, rfl, hh1, hb1⟩ := hq
  have Hp := Lib.hid (show Qr w (.agg #[h0, b0]) p from ⟨_, _, rfl, hh, hb⟩)
  have Hq := Lib.hid (show Qr w (.agg #[h1, b1]) q from ⟨_, _, rfl, hh1, hb1⟩)
  obtain ⟨ha, hc, rfl⟩ := ints_slice hh
  obtain ⟨ba, bc, rfl⟩ := atoms_slice hb
  obtain ⟨ha1, hc1, rfl⟩ := ints_slice hh1
  obtain ⟨ba1, bc1, rfl⟩ := atoms_slice hb1
  obtain ⟨n0, hn0⟩ : ∃ x, x = p.1.length := ⟨_, rfl⟩
  obtain ⟨n1, hn1⟩ : ∃ x, x = p.2.length := ⟨_, rfl⟩
  obtain ⟨n2, hn2⟩ : ∃ x, x = q.1.length := ⟨_, rfl⟩
  obtain ⟨n3, hn3⟩ : ∃ x, x = q.2.length := ⟨_, rfl⟩
  rw [← hn0, ← hn1] at Hp
  rw [← hn2, ← hn3] at Hq
  rw [← hn0, ← hn1, ← hn2, ← hn3]
  obtain ⟨w1, hw1⟩ : ∃ x, x = w.alloc (.cells #[.slice ha n0 hc, .slice ba n1 bc] 25) := ⟨_, rfl⟩
  obtain ⟨w2, hw2⟩ : ∃ x, x = w1.alloc (.cells #[.slice ha1 n2 hc1, .slice ba1 n3 bc1] 25) := ⟨_, rfl⟩
  obtain ⟨bp, hbp⟩ : ∃ x, x = w.heap.size := ⟨_, rfl⟩
  obtain ⟨bq, hbq⟩ : ∃ x, x = bp + 1 := ⟨_, rfl⟩
  have HB := Lib.hid (B2.new hw1 hw2 hbp hbq)
  have Hw1 := Lib.hid hw1
  have Hw2 := Lib.hid hw2
  have Hbpe := Lib.hid hbp
  have Hbqe := Lib.hid hbq
  have Hn := Lib.hid (And.intro hn0 hn2)
  clear hh hb hh1 hb1 hw1 hw2 hbp hbq hn0 hn1 hn2 hn3
  go_enter Try.func28, Try.ntmps28
  go_upto_region 1 with fail
  rw [← Hw1.out, ← Hw2.out, ← Hbpe.out, ← Hbqe.out]
  clear Hw1 Hw2
  have HNo := Lib.hid (fun (h : ¬ PairV p q) (w' : World) => show HomRC p q w' (.slice none 0 0) 2 from .inl ⟨h, rfl, rfl⟩)
  obtain ⟨⟨g0, g1⟩, g2, g3⟩ := HB.out.cells
  by_cases hp : QrV p
  · have HV := Lib.hid (validQR_any p _ w2 (Hp.out.keep HB.out.b) true (decide_eq_true hp))
    go_wp2_with fail
    refine HV.out.mono ?_
    rintro e w3 ⟨rfl, hb⟩
    have HB := Lib.hid (HB.out.keep hb)
    clear hb g0 g1 g2 g3 HV
    obtain ⟨⟨g0, g1⟩, g2, g3⟩ := HB.out.cells
    by_cases hq : QrV q
    · have HV := Lib.hid (validQR_any q _ w3 (Hq.out.keep HB.out.b) true (decide_eq_true hq))
      go_wp2_with fail
      refine HV.out.mono ?_
      rintro e w4 ⟨rfl, hb⟩
      have HB := Lib.hid (HB.out.keep hb)
      clear hb g0 g1 g2 g3 HV
      obtain ⟨⟨g0, g1⟩, g2, g3⟩ := HB.out.cells
      by_cases hlen : n0 = n2
      · subst hlen
        have HP := Lib.hid (show PairV p q from ⟨hp, hq, Hn.out.1.symm.trans Hn.out.2⟩)
        have HT := Lib.hid (tryR_any HP.out 8 [] _ _ (.slice none 0 0) w4 rfl (Hp.out.keep HB.out.b) (Hq.out.keep HB.out.b) (ownInts_nil 0 w4).ints)
        go_wp2_with fail
        refine HT.out.mono ?_
        rintro e w5 ⟨ra, rn, rk, rfl, hT, hb⟩
        have HT := Lib.hid hT
        have HB := Lib.hid (HB.out.keep hb)
        have hnn := runeq_nil w5 ra rn rk
        clear hT hb g0 g1 g2 g3
        cases ra with
        | none =>
          have HR := Lib.hid (homRC_no (w' := w5) HP.out HT.out)
          go_wp2_with fail
          go_ret2
          exact ⟨_, _, _, _, rfl, HR.out, HB.out.b⟩
        | some ra =>
          have HR := Lib.hid (homRC_of HP.out HT.out)
          go_wp2_with fail
          go_ret2
          exact ⟨_, _, _, _, rfl, HR.out, HB.out.b⟩
      · have HE := Lib.hid (HNo.out (fun h => hlen (Hn.out.1.trans (h.2.2.trans Hn.out.2.symm))) w4)
        have hne : ((n0 : Int) != n2) = true := by rw [bne_iff_ne]; omega
        go_wp2_with fail
        go_ret2
        exact ⟨_, _, _, _, rfl, HE.out, HB.out.b⟩
    · have HV := Lib.hid (validQR_any q _ w3 (Hq.out.keep HB.out.b) false (decide_eq_false hq))
      go_wp2_with fail
      refine HV.out.mono ?_
      rintro e w4 ⟨rfl, hb⟩
      have HE := Lib.hid (HNo.out (fun h => hq h.2.1) w4)
      have HB := Lib.hid (HB.out.keep hb)
      clear hb g0 g1 g2 g3
      go_wp2_with fail
      go_ret2
      exact ⟨_, _, _, _, rfl, HE.out, HB.out.b⟩
  · have HV := Lib.hid (validQR_any p _ w2 (Hp.out.keep HB.out.b) false (decide_eq_false hp))
    go_wp2_with fail
    refine HV.out.mono ?_
    rintro e w3 ⟨rfl, hb⟩
    have HE := Lib.hid (HNo.out (fun h => hp h.1) w3)
    have HB := Lib.hid (HB.out.keep hb)
    clear hb g0 g1 g2 g3
    go_wp2_with fail
    go_ret2
    exact ⟨_, _, _, _, rfl, HE.out, HB.out.b⟩
#print axioms homRef_any
end Go.Proofs.Ytfplmdieeabgpaa

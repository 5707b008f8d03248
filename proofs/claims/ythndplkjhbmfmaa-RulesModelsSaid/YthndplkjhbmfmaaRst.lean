/- Contract of strata. -/
import Derived.Test.YthndplkjhbmfmaaRsm
import Derived.OwnWalk
namespace Go.Proofs.Ythndplkjhbmfmaa
open Go.RowKit
/-- what the walk of strata keeps of the row -/
structure Sk (w wr : World) (g : Nat) (L : List Int) : Prop where
  b : Below w.heap.size w wr
  z : w.heap.size ≤ g
  o : OwnInts w.heap.size wr (.slice (some ⟨g, 0, none⟩) 6 6) L
theorem Sk.keep {w wr w' : World} {g : Nat} {L : List Int} (h : Sk w wr g L) (hb : Below wr.heap.size wr w') : Sk w w' g L := ⟨Below.tr h.b hb, h.z, h.o.keep hb⟩
theorem Sk.lt {w wr : World} {g : Nat} {L : List Int} (h : Sk w wr g L) : g < wr.heap.size := (own_lt h.o rfl).2
theorem Sk.set {w wr : World} {g : Nat} {L : List Int} (h : Sk w wr g L) (hl : L.length = 6) (k : Nat) (x : Int) : Sk w (wr.setCell ⟨g, k, none⟩ (.int .i64 x)) g (L.set k x) := by
  obtain ⟨h1, h2⟩ := own_setR h.o hl.symm k x
  exact ⟨h.b.setCell h.z _, h.z, h1⟩
theorem list6 {L : List Int} (h : L.length = 6) {k : Nat} (hk : k < 6) : k < L.length := by omega
/-- what strata returns -/
def StrE (l : List RRule) (B : Nat) (w' : World) (e : Ending) : Prop :=
  (∃ a c L, e = .returned (.tuple #[.slice a 6 c, .bool true]) ∧ OwnInts B w' (.slice a 6 c) L ∧ Str l L) ∨ (e = .returned (.tuple #[.slice none 0 0, .bool false]) ∧ NoStr l)
set_option maxRecDepth 100000 in
set_option maxHeartbeats 16000000 in
theorem strata_any (l : List RRule) (hat : RuV l) (v : Value) (w : World) (hv : Rules w v l) :
    Calls Try.prog 63 #[v] w fun e w' => StrE l w.heap.size w' e ∧ Below w.heap.size w w' := by
  obtain ⟨a, b, off, cap, rfl, hle, hia, _, hcs⟩ := Rules.get hv
  obtain ⟨n, hn⟩ : ∃ x, x = l.length := ⟨_, rfl⟩
  have Hn := Lib.hid hn
  rw [← hn] at hle hia hcs ⊢
  have Hix := Lib.hid (run_ix (P := Try.prog) (t := 27) (a := a) (len := n) (cap := cap) (b := b) (off := off) (s := 3) Try.underlying27 (by intro w; kernel_rfl) hia)
  have Hc := Lib.hid hcs
  have Hat := Lib.hid hat
  obtain ⟨i0, hi, hz, hzz, hby⟩ := info_parts infoInt
  have Hi := Lib.hid hi
  have Hz := Lib.hid hz
  have Hzz := Lib.hid hzz
  have Hby := Lib.hid (show i0.bytes * 6 ≤ 281474976710656 from by rw [hby]; omega)
  obtain ⟨g, hg⟩ : ∃ x, x = w.heap.size := ⟨_, rfl⟩
  have Hg := Lib.hid hg
  have Hixg := Lib.hid (run_ix (P := Try.prog) (t := 23) (a := some ⟨g, 0, none⟩) (len := 6) (cap := 6) (b := g) (off := 0) (s := 1) Try.underlying23 (by intro w; kernel_rfl) (fun _ => rfl))
  simp only [Nat.mul_one, Nat.zero_add] at Hixg
  clear hv hia hcs hn hi hz hzz hby hg hat
  go_enter Try.func63, Try.ntmps63
  go_upto_region 2 with (first | (refine wpList_make_full _ rfl (.const (.int .i64 6)) (.const (.int .i64 6)) 23 rfl w.heap.size 3 i0 (.int .i64 0) 1 Try.underlying23 Hi.out Hz.out Hzz.out .i64 .i64 _ _ 6 rfl rfl rfl rfl Hby.out (by unfold maxLen; omega) (Nat.le_refl _) ?_; intro w1 hown hgr))
  have HS0 := Lib.hid (show Sk w w1 g [0, 0, 0, 0, 0, 0] from by
    refine ⟨⟨hgr.os, hgr.tape, hgr.output, hgr.size, fun k hk => hgr.block k hk (by simp)⟩, by rw [Hg.out]; exact Nat.le_refl _, ?_⟩
    have := hown
    have e : (madeCells (Value.int .i64 0).cells (6 * 1)).toList = ([0, 0, 0, 0, 0, 0] : List Int).map (Value.int .i64) := by kernel_rfl
    rw [← Hg.out, e] at this
    rw [← Hg.out]
    exact this)
  have Hbase := Lib.hid (show g = w.heap.size from Hg.out)
  rw [← Hg.out]
  clear hown hgr Hi Hz Hzz Hby
  go_wp2_with fail
  go_loopw [5] (fun vc wr => ∃ (C : Bool) (L : List Int), vc = .bool C ∧ Sk w wr g L ∧ Sv l L ∧ (C = false → Sol l L)) (fun vc wr => m6 wr g * 2 + (match vc with | .bool true => 1 | _ => 0))
  case atStart => exact ⟨true, _, rfl, HS0.out, sv_0 l, fun h => by cases h⟩
  case round =>
    generalize wr = wx at *
    clear HS0
    obtain ⟨C, L, rfl, hS, hV, hC⟩ := hrel
    cases C
    · have HS := Lib.hid hS
      have HR := Lib.hid (show Str l L from ⟨hV, hC rfl⟩)
      clear hS hV hC
      go_wp2_with fail
      go_ret2
      exact ⟨.inl ⟨_, _, L, rfl, HS.out.o, HR.out⟩, HS.out.b⟩
    · have HS := Lib.hid (show Sk w wx g L from hS)
      have HRd := Lib.hid (show Rnd l L L false 0 0 from ⟨hV, fun _ => ⟨rfl, upTo_0 L l⟩, fun h => by cases h⟩)
      have HM := Lib.hid (m6_eq hV hS.o)
      clear hS hV hC
      obtain ⟨M, hM⟩ : ∃ x, x = m6 wx g := ⟨_, rfl⟩
      rw [← hM] at HM ⊢
      clear hM
      go_wp2_with fail
      go_loopw [5, 15] (fun vc vi wr => ∃ (C : Bool) (k : Nat) (L' : List Int), vc = .bool C ∧ vi = .int .i64 k ∧ k ≤ n ∧ Sk w wr g L' ∧ Rnd l L L' C k 0) (fun _ vi _ => n - (intOf vi).toNat)
      case atStart => exact ⟨false, 0, L, rfl, rfl, Nat.zero_le _, HS.out, HRd.out⟩
      case round =>
        generalize wr = wy at *
        clear HRd HS
        obtain ⟨C, k, L', rfl, rfl, hk, hS, hR⟩ := hrel
        have HS := Lib.hid hS
        have HR := Lib.hid hR
        clear hS hR
        by_cases hlt : k < n
        · obtain ⟨ua, uc, va, vc, hc0, hc1, hc2, hui, hvi⟩ := Hc.out k hlt
          have hc0 := Below.keep HS.out.b hc0
          have hc1 := Below.keep HS.out.b hc1
          have hc2 := Below.keep HS.out.b hc2
          have hixk := Hix.out k
          have hlt2 : k < l.length := by rw [← Hn.out]; exact hlt
          have HMr := Lib.hid (show rR l k ∈ l from by rw [rR_get hlt2]; exact List.getElem_mem hlt2)
          have HNx := Lib.hid (fun L (h : UpTo L l k (rR l k).2.length) => upTo_next hlt2 rfl h)
          have HLt := Lib.hid (fun L j (h1 : j < (rR l k).2.length) (h2 : UpTo L l k j) (h3 : SolB L (rR l k) (lL (rR l k).2 j)) => upTo_lit h1 h2 h3)
          obtain ⟨r, hrr⟩ : ∃ x, x = rR l k := ⟨_, rfl⟩
          rw [← hrr] at hc0 hc1 hc2 hvi HMr HNx HLt
          obtain ⟨hr, hhr⟩ : ∃ x, x = r.1.1 := ⟨_, rfl⟩
          have Hhr := Lib.hid hhr
          rw [← hhr] at hc0
          obtain ⟨un, hun⟩ : ∃ x, x = r.1.2.length := ⟨_, rfl⟩
          obtain ⟨vn, hvn⟩ : ∃ x, x = r.2.length := ⟨_, rfl⟩
          have Hvn := Lib.hid hvn
          rw [hrr, ← hrr, ← hun] at hc1
          rw [← hvn] at hc2 hvi HNx
          have Hvi := Lib.hid hvi
          have hh := (Hat.out r HMr.out).1.1
          rw [← hhr] at hh
          obtain ⟨hN, rfl⟩ : ∃ x : Nat, hr = x := ⟨hr.toNat, by omega⟩
          have hN6 : hN < 6 := by omega
          obtain ⟨w3, hw3⟩ : ∃ x, x = wy.alloc (.cells #[.int .i64 (hN : Int), .slice ua un uc, .slice va vn vc] 98) := ⟨_, rfl⟩
          have hb3 : Below wy.heap.size wy w3 := by rw [hw3]; exact below_alloc _ _
          obtain ⟨bx, hbx⟩ : ∃ x, x = wy.heap.size := ⟨_, rfl⟩
          have HX := Lib.hid (show w3.heap[bx]? = some (.cells #[.int .i64 (hN : Int), .slice ua un uc, .slice va vn vc] 98 (0, 0)) from by rw [hw3, hbx]; exact heap_alloc_new _ _)
          have Hne := Lib.hid (show bx ≠ g from by have := HS.out.lt; omega)
          have HS3 := Lib.hid (HS.out.keep hb3)
          have Hw3 := Lib.hid hw3
          have Hbx := Lib.hid hbx
          clear hrr hun hvn hui hvi hhr hw3 hb3 hbx hlt2 hh
          go_upto_region 8 with fail
          rw [← Hw3.out, ← Hbx.out]
          clear Hw3 hc0 hc1 hc2 hixk
          have g2 := aCell HX.out 2 rfl
          obtain ⟨a5, b5, off5, cap5, he5, hvl, hia5, _, hcs5⟩ := Lits.get Hvi.out
          rw [← Hvn.out] at he5 hia5 hcs5 hvl
          injection he5 with e1 e2 e3
          subst e1 e3
          have Hix5 := Lib.hid (run_ix (P := Try.prog) (t := 96) (a := va) (len := vn) (cap := vc) (b := b5) (off := off5) (s := 3) Try.underlying96 (by intro w; kernel_rfl) hia5)
          have Hc5 := Lib.hid hcs5
          clear hia5 hcs5 e2
          go_wp2_with fail
          clear g2
          go_loopw [5, 22] (fun vc' vi wr => ∃ (C : Bool) (j : Nat) (L' : List Int), vc' = .bool C ∧ vi = .int .i64 j ∧ j ≤ vn ∧ Sk w wr g L' ∧ Rnd l L L' C k j ∧ wr.heap[bx]? = some (.cells #[.int .i64 (hN : Int), .slice ua un uc, .slice va vn vc] 98 (0, 0))) (fun _ vi _ => vn - (intOf vi).toNat)
          case atStart => exact ⟨C, 0, L', rfl, rfl, Nat.zero_le _, HS3.out, HR.out, HX.out⟩
          case round =>
            generalize wr = wz at *
            clear HS HR HS3 HX
            obtain ⟨C, j, L', rfl, rfl, hj, hS, hR, hX⟩ := hrel
            have HS := Lib.hid hS
            have HR := Lib.hid hR
            have HX := Lib.hid hX
            clear hS hR hX
            by_cases hlj : j < vn
            · obtain ⟨xa, xc, hd0, hd1, hd2, hxi⟩ := Hc5.out j hlj
              have hd0 := Below.keep HS.out.b hd0
              have hd1 := Below.keep HS.out.b hd1
              have hd2 := Below.keep HS.out.b hd2
              have hixj := Hix5.out j
              have hlj2 : j < r.2.length := by rw [← Hvn.out]; exact hlj
              have HMb := Lib.hid (show lL r.2 j ∈ r.2 from by rw [lL_get hlj2]; exact List.getElem_mem hlj2)
              have HLj := Lib.hid (fun L (h2 : UpTo L l k j) (h3 : SolB L r (lL r.2 j)) => HLt.out L j hlj2 h2 h3)
              obtain ⟨⟨N, s, X⟩, hbb⟩ : ∃ x, x = lL r.2 j := ⟨_, rfl⟩
              rw [← hbb] at hd0 hd1 hd2 HMb HLj
              simp only at hd0 hd1 hd2
              obtain ⟨xn, hxn⟩ : ∃ x, x = X.length := ⟨_, rfl⟩
              rw [← hxn] at hd2
              have hs := ((Hat.out r HMr.out).2 _ HMb.out).1
              simp only at hs
              obtain ⟨sN, rfl⟩ : ∃ x : Nat, s = x := ⟨s.toNat, by omega⟩
              have hs6 : sN < 6 := by omega
              obtain ⟨w5, hw5⟩ : ∃ x, x = wz.alloc (.cells #[.bool N, .int .i64 (sN : Int), .slice xa xn xc] 100) := ⟨_, rfl⟩
              have hb5 : Below wz.heap.size wz w5 := by rw [hw5]; exact below_alloc _ _
              obtain ⟨bl, hbl⟩ : ∃ x, x = wz.heap.size := ⟨_, rfl⟩
              have HL := Lib.hid (show w5.heap[bl]? = some (.cells #[.bool N, .int .i64 (sN : Int), .slice xa xn xc] 100 (0, 0)) from by rw [hw5, hbl]; exact heap_alloc_new _ _)
              have HS5 := Lib.hid (HS.out.keep hb5)
              have HX5 := Lib.hid (blk_keep2 HX.out hb5)
              have hlen := HR.out.sv.len
              have hrs := HR.out.sv.rng sN hs6
              have hrh := HR.out.sv.rng hN hN6
              have HcS := Lib.hid (ownI_cellR HS5.out.o hlen.symm (list6 hlen hs6))
              have HcH := Lib.hid (ownI_cellR HS5.out.o hlen.symm (list6 hlen hN6))
              have HfH := Lib.hid (World.ownsRow.frozenAt (show w5.ownsRow w.heap.size 3 1 (.slice (some ⟨g, 0, none⟩) 6 6) 6 (L'.map (Value.int .i64)) from by have := HS5.out.o; unfold OwnInts at this; rw [hlen] at this; exact this) hN)
              have Hat5 := Lib.hid (show atL L' (sN : Int) = L'.getD sN 0 ∧ atL L' (hN : Int) = L'.getD hN 0 from ⟨by unfold atL; rw [Int.toNat_natCast], by unfold atL; rw [Int.toNat_natCast]⟩)
              have HSB := Lib.hid (show SolB L' r (N, (sN : Int), X) ↔ L'.getD sN 0 + nt N ≤ L'.getD hN 0 from by unfold SolB; rw [← Hhr.out, Hat5.out.1, Hat5.out.2])
              have HNo := Lib.hid (fun (h : 6 ≤ L'.getD sN 0 + nt N) => no_str HR.out.sv HMr.out HMb.out (Hat.out r HMr.out).1.1 hs (by rw [Hat5.out.1]; exact h))
              have HSt := Lib.hid (fun (h : L'.getD sN 0 + nt N ≤ 5) => show Sv l (L'.set hN (L'.getD sN 0 + nt N)) from by
                have := sv_step HR.out.sv HMr.out HMb.out (Hat.out r HMr.out).1.1 hs (by rw [Hat5.out.1]; exact h)
                rw [← Hhr.out, Int.toNat_natCast, Hat5.out.1] at this
                exact this)
              have HSm := Lib.hid (fun x => s6_set hlen hN6 x)
              have Hlen := Lib.hid hlen
              have hixs := Hixg.out sN
              have hixh := Hixg.out hN
              have Hw5 := Lib.hid hw5
              have Hbl := Lib.hid hbl
              obtain ⟨xs, hxs⟩ : ∃ x, x = L'.getD sN 0 := ⟨_, rfl⟩
              obtain ⟨xh, hxh⟩ : ∃ x, x = L'.getD hN 0 := ⟨_, rfl⟩
              rw [← hxs] at hrs HcS HSB HNo HSt
              rw [← hxh] at hrh HcH HSB HSm
              clear hbb hxn hxi hw5 hb5 hbl hlj2 hs hlen hxs hxh Hat5
              go_upto_region 11 with fail
              rw [← Hw5.out, ← Hbl.out]
              clear Hw5 hd0 hd1 hd2 hixj
              have g0 := aCell HL.out 0 rfl
              have g1 := aCell HL.out 1 rfl
              have gh := aCell HX5.out 0 rfl
              have gs := HcS.out
              have gx := HcH.out
              have gf := HfH.out
              obtain ⟨lt, hlt3⟩ : ∃ x, x = xs + nt N := ⟨_, rfl⟩
              rw [← hlt3] at HSB HNo HSt
              have hle6 : 0 ≤ lt ∧ lt ≤ 6 := by unfold nt at hlt3; split at hlt3 <;> omega
              have hN1 : N = true → IntKind.i64.wrap (xs + 1) = lt := fun h => by subst h; rw [show xs + 1 = lt from by rw [hlt3]; rfl]; exact IntWalk.i64_in _ ⟨by omega, by omega⟩
              have hN0 : N = false → lt = xs := fun h => by subst h; rw [hlt3]; unfold nt; simp
              clear hlt3
              clear HS HX
              cases N
              · obtain rfl := hN0 rfl
                clear hN1 hN0
                have c6 : ¬ (6 ≤ lt) := by omega
                by_cases c : xh < lt
                · have HSs := Lib.hid (HS5.out.set Hlen.out hN lt)
                  have HXs := Lib.hid (show (w5.setCell ⟨g, hN, none⟩ (.int .i64 lt)).heap[bx]? = some (.cells #[.int .i64 (hN : Int), .slice ua un uc, .slice va vn vc] 98 (0, 0)) from (heap_setCell_other w5 ⟨g, hN, none⟩ bx _ Hne.out).trans HX5.out)
                  have HR' := Lib.hid (show Rnd l L (L'.set hN lt) true k (j + 1) from ⟨HSt.out (by omega), fun h => (by cases h), fun _ => by
                    have a := HSm.out lt
                    rw [a]
                    cases C
                    · have := (HR.out.up rfl).1; subst this; omega
                    · have := HR.out.gr rfl; omega⟩)
                  clear HSB HNo HSt HSm HcS HcH HfH
                  go_wp2_with fail
                  go_roundw
                  case rel => exact ⟨true, j + 1, L'.set hN lt, rfl, by go_num, by omega, HSs.out, HR'.out, HXs.out⟩
                  case measure => simp [intOf]; omega
                · have HR' := Lib.hid (show Rnd l L L' C k (j + 1) from ⟨HR.out.sv, fun h => by
                    obtain ⟨e, h2⟩ := HR.out.up h
                    refine ⟨e, HLj.out L h2 ?_⟩
                    rw [← e]
                    exact HSB.out.2 (by omega), HR.out.gr⟩)
                  clear HSB HNo HSt HSm HcS HcH HfH
                  go_wp2_with fail
                  go_roundw
                  case rel => exact ⟨C, j + 1, L', rfl, by go_num, by omega, HS5.out, HR'.out, HX5.out⟩
                  case measure => simp [intOf]; omega
              · have hw := hN1 rfl
                clear hN1 hN0
                by_cases c6 : 6 ≤ lt
                · have R := Lib.hid (HNo.out c6)
                  clear HSB HNo HSt HSm HcS HcH HfH
                  go_wp2_with fail
                  go_ret2
                  exact ⟨.inr ⟨rfl, R.out⟩, HS5.out.b⟩
                · by_cases c : xh < lt
                  · have HSs := Lib.hid (HS5.out.set Hlen.out hN lt)
                    have HXs := Lib.hid (show (w5.setCell ⟨g, hN, none⟩ (.int .i64 lt)).heap[bx]? = some (.cells #[.int .i64 (hN : Int), .slice ua un uc, .slice va vn vc] 98 (0, 0)) from (heap_setCell_other w5 ⟨g, hN, none⟩ bx _ Hne.out).trans HX5.out)
                    have HR' := Lib.hid (show Rnd l L (L'.set hN lt) true k (j + 1) from ⟨HSt.out (by omega), fun h => (by cases h), fun _ => by
                      have a := HSm.out lt
                      rw [a]
                      cases C
                      · have := (HR.out.up rfl).1; subst this; omega
                      · have := HR.out.gr rfl; omega⟩)
                    clear HSB HNo HSt HSm HcS HcH HfH
                    go_wp2_with fail
                    go_roundw
                    case rel => exact ⟨true, j + 1, L'.set hN lt, rfl, by go_num, by omega, HSs.out, HR'.out, HXs.out⟩
                    case measure => simp [intOf]; omega
                  · have HR' := Lib.hid (show Rnd l L L' C k (j + 1) from ⟨HR.out.sv, fun h => by
                      obtain ⟨e, h2⟩ := HR.out.up h
                      refine ⟨e, HLj.out L h2 ?_⟩
                      rw [← e]
                      exact HSB.out.2 (by omega), HR.out.gr⟩)
                    clear HSB HNo HSt HSm HcS HcH HfH
                    go_wp2_with fail
                    go_roundw
                    case rel => exact ⟨C, j + 1, L', rfl, by go_num, by omega, HS5.out, HR'.out, HX5.out⟩
                    case measure => simp [intOf]; omega
            · obtain rfl : j = vn := by omega
              have HR' := Lib.hid (show Rnd l L L' C (k + 1) 0 from ⟨HR.out.sv, fun h => ⟨(HR.out.up h).1, HNx.out L (HR.out.up h).2⟩, HR.out.gr⟩)
              go_wp2_with fail
              go_roundw
              case rel => exact ⟨C, k + 1, L', rfl, by go_num, by omega, HS.out, HR'.out⟩
              case measure => simp [intOf]; omega
        · obtain rfl : k = n := by omega
          have HR' := Lib.hid (show C = false → Sol l L' from fun h => by
            obtain ⟨h1, h2⟩ := HR.out.up h
            rw [h1]
            exact upTo_all (by rw [← Hn.out]; exact h2))
          have HM' := Lib.hid (m6_eq HR.out.sv HS.out.o)
          have Hgr := Lib.hid (show m6 wy g * 2 + (match Value.bool C with | .bool true => 1 | _ => 0) < M * 2 + 1 from by
            have a := HM.out
            have b := HM'.out
            cases C
            · have := (HR.out.up rfl).1
              subst this
              show m6 wy g * 2 + 0 < M * 2 + 1
              omega
            · have := HR.out.gr rfl
              show m6 wy g * 2 + 1 < M * 2 + 1
              omega)
          go_wp2_with fail
          go_roundw
          case rel => exact ⟨C, L', rfl, HS.out, HR.out.sv, HR'.out⟩
          case measure => first | exact Hgr.out | (have := Hgr.out; simp at this ⊢; omega)
#print axioms strata_any
end Go.Proofs.Ythndplkjhbmfmaa

/- Strata of the reference: math. Contract of Strata. Contract of the reference's Strata. -/
import Derived.Test.YthndplkjhbmfmaaRst
namespace Go.Proofs.Ythndplkjhbmfmaa
open Go.RowKit
/-- strata under way: no greater than any solution, at most K -/
structure SvR (l : List RRule) (L : List Int) (K : Nat) : Prop where
  len : L.length = 6
  rng : ∀ i, i < 6 → 0 ≤ L.getD i 0 ∧ L.getD i 0 ≤ (K : Int)
  low : ∀ T, PSol l T → LeL L T
theorem SvR.mono {l : List RRule} {L : List Int} {K K' : Nat} (h : SvR l L K) (hk : K ≤ K') : SvR l L K' := ⟨h.len, fun i hi => ⟨(h.rng i hi).1, by have := (h.rng i hi).2; omega⟩, h.low⟩
theorem svr_0 (l : List RRule) : SvR l [0, 0, 0, 0, 0, 0] 0 := ⟨rfl, fun i hi => by match i, hi with | 0, _ | 1, _ | 2, _ | 3, _ | 4, _ | 5, _ => exact ⟨Int.le_refl _, Int.le_refl _⟩, (sv_0 l).low⟩
/-- one round under way -/
structure RdR (l : List RRule) (L0 L : List Int) (K k j : Nat) : Prop where
  sv : SvR l L K
  cl : Sol l L0 → L = L0
  up : (L = L0 ∧ UpTo L0 l k j) ∨ s6 L0 < s6 L
theorem rdr_0 {l : List RRule} {L : List Int} {K : Nat} (h : SvR l L K) : RdR l L L K 0 0 := ⟨h, fun _ => rfl, .inl ⟨rfl, upTo_0 L l⟩⟩
theorem RdR.mono {l : List RRule} {L0 L : List Int} {K K' k j : Nat} (h : RdR l L0 L K k j) (hk : K ≤ K') : RdR l L0 L K' k j := ⟨h.sv.mono hk, h.cl, h.up⟩
theorem rdr_next {l : List RRule} {L0 L : List Int} {K k j : Nat} (h : RdR l L0 L K k j) (hk : k < l.length) (hj : j = (rR l k).2.length) : RdR l L0 L K (k + 1) 0 := ⟨h.sv, h.cl, h.up.imp (fun ⟨a, b⟩ => ⟨a, upTo_next hk hj b⟩) id⟩
theorem set_sameI {L : List Int} {i : Nat} (h : i < L.length) : L.set i (L.getD i 0) = L := by
  rw [List.getD_eq_getElem?_getD, List.getElem?_eq_getElem h]
  exact List.set_getElem_self h
theorem rdr_lit {l : List RRule} {L0 L : List Int} {K k j : Nat} (h : RdR l L0 L K k j) (hat : RuV l) (hk : k < l.length) (hj : j < (rR l k).2.length) {m : Int}
    (hm : m = if atL L (rR l k).1.1 < atL L (lL (rR l k).2 j).2.1 + nt (lL (rR l k).2 j).1 then atL L (lL (rR l k).2 j).2.1 + nt (lL (rR l k).2 j).1 else atL L (rR l k).1.1) : RdR l L0 (L.set (rR l k).1.1.toNat m) (K + 1) k (j + 1) := by
  have hr : rR l k ∈ l := by rw [rR_get hk]; exact List.getElem_mem hk
  have hb : lL (rR l k).2 j ∈ (rR l k).2 := by rw [lL_get hj]; exact List.getElem_mem hj
  have hh := (hat _ hr).1.1
  have hs := ((hat _ hr).2 _ hb).1
  have hlen := h.sv.len
  have hl : (rR l k).1.1.toNat < L.length := by omega
  have rh := h.sv.rng (rR l k).1.1.toNat (by omega)
  have rb := h.sv.rng (lL (rR l k).2 j).2.1.toNat (by omega)
  have hn : 0 ≤ nt (lL (rR l k).2 j).1 ∧ nt (lL (rR l k).2 j).1 ≤ 1 := by unfold nt; split <;> omega
  by_cases c : atL L (rR l k).1.1 < atL L (lL (rR l k).2 j).2.1 + nt (lL (rR l k).2 j).1
  · rw [if_pos c] at hm
    have hs6 := s6_set hlen (i := (rR l k).1.1.toNat) (by omega) m
    have hlow : ∀ T, PSol l T → LeL (L.set (rR l k).1.1.toNat m) T := fun T hT i hi => by
      rw [getD_setI hl]
      split
      · rename_i e
        have k1 : atL T (lL (rR l k).2 j).2.1 + nt (lL (rR l k).2 j).1 ≤ atL T (rR l k).1.1 := hT.2 _ hr _ hb
        have k2 := h.sv.low T hT (lL (rR l k).2 j).2.1.toNat (by omega)
        unfold atL at *
        rw [e] at k1
        omega
      · exact h.sv.low T hT i hi
    refine ⟨⟨by rw [List.length_set]; exact hlen, fun i hi => ?_, hlow⟩, fun hc => ?_, .inr ?_⟩
    · rw [getD_setI hl]
      split
      · unfold atL at *; omega
      · have := h.sv.rng i hi; omega
    · have e := h.cl hc
      subst e
      have := hc _ hr _ hb
      unfold SolB at this
      omega
    · unfold atL at *
      rcases h.up with ⟨e, _⟩ | h1
      · subst e; omega
      · omega
  · rw [if_neg c] at hm
    have e : L.set (rR l k).1.1.toNat m = L := by rw [hm]; exact set_sameI hl
    rw [e]
    refine ⟨h.sv.mono (by omega), h.cl, h.up.imp (fun ⟨a, b⟩ => ⟨a, upTo_lit hj b ?_⟩) id⟩
    rw [← a]
    show atL L _ + _ ≤ atL L _
    omega
theorem rdr_end {l : List RRule} {L0 L : List Int} {K i : Nat} (h0 : Sol l L0 ∨ (i : Int) ≤ s6 L0) (h : RdR l L0 L K l.length 0) : Sol l L ∨ ((i + 1 : Nat) : Int) ≤ s6 L := by
  rcases h.up with ⟨e, h1⟩ | h1
  · subst e; exact .inl (upTo_all h1)
  · rcases h0 with h2 | h2
    · rw [h.cl h2] at h1; omega
    · exact .inr (by omega)
theorem svr_str {l : List RRule} {L : List Int} {K : Nat} (h : SvR l L K) (h0 : Sol l L ∨ ((60 : Nat) : Int) ≤ s6 L) (h5 : ∀ i, i < 6 → L.getD i 0 ≤ 5) : Str l L := by
  refine ⟨⟨h.len, fun i hi => ⟨(h.rng i hi).1, h5 i hi⟩, h.low⟩, ?_⟩
  rcases h0 with h0 | h0
  · exact h0
  · have a0 := h5 0 (by omega); have a1 := h5 1 (by omega); have a2 := h5 2 (by omega); have a3 := h5 3 (by omega); have a4 := h5 4 (by omega); have a5 := h5 5 (by omega)
    unfold s6 at h0
    omega
theorem svr_no {l : List RRule} {L : List Int} {K i : Nat} (h : SvR l L K) (hi : i < 6) (h5 : 5 < L.getD i 0) : NoStr l := fun T hT => ⟨i, hi, by have := h.low T hT i hi; omega⟩
/-- what Strata returns -/
def StE (l : List RRule) (B : Nat) (w' : World) (e : Ending) : Prop :=
  (¬ ValR l [] ∧ e = .returned (.tuple #[.slice none 0 0, .int .i64 2])) ∨ (ValR l [] ∧ NoStr l ∧ e = .returned (.tuple #[.slice none 0 0, .int .i64 8])) ∨
  (ValR l [] ∧ ∃ a c L, e = .returned (.tuple #[.slice a 6 c, .int .i64 0]) ∧ OwnInts B w' (.slice a 6 c) L ∧ Str l L)
set_option maxRecDepth 100000 in
theorem Strata_any (l : List RRule) (v : Value) (w : World) (hv : Rules w v l) :
    Calls Try.prog 18 #[v] w fun e w' => StE l w.heap.size w' e ∧ Below w.heap.size w w' := by
  have HR := Lib.hid hv
  obtain ⟨a, cap, rfl⟩ := RdS.slice hv
  obtain ⟨n, hn⟩ : ∃ x, x = l.length := ⟨_, rfl⟩
  rw [← hn] at HR ⊢
  clear hv hn
  by_cases hval : ValR l []
  · have HC := Lib.hid (valid_any l [] _ (.slice none 0 0) w HR.out (atoms_nil w) true ⟨fun _ => hval, fun _ => rfl⟩)
    have HV := Lib.hid hval
    clear hval
    go_enter Try.func18, Try.ntmps18
    go_wp2_with fail
    refine HC.out.mono ?_
    clear HC
    rintro e w1 ⟨rfl, hb1⟩
    have HB1 := Lib.hid hb1
    have HC := Lib.hid (strata_any l HV.out.ats _ w1 (HR.out.keep hb1))
    clear hb1
    go_wp2_with fail
    refine HC.out.mono ?_
    clear HC
    rintro e w2 ⟨hm, hb2⟩
    have HB2 := Lib.hid (Below.tr HB1.out hb2)
    clear hb2
    rcases hm with ⟨a2, c2, L, rfl, ho, hs⟩ | ⟨rfl, hno⟩
    · have HO := Lib.hid (ho.base HB1.out.size)
      have HS := Lib.hid hs
      clear ho hs
      go_wp2_with fail
      go_ret2
      exact ⟨.inr (.inr ⟨HV.out, a2, c2, L, rfl, HO.out, HS.out⟩), HB2.out⟩
    · have HN := Lib.hid hno
      clear hno
      go_wp2_with fail
      go_ret2
      exact ⟨.inr (.inl ⟨HV.out, HN.out, rfl⟩), HB2.out⟩
  · have HC := Lib.hid (valid_any l [] _ (.slice none 0 0) w HR.out (atoms_nil w) false ⟨fun h => (by cases h), fun h => absurd h hval⟩)
    have HV := Lib.hid hval
    clear hval
    go_enter Try.func18, Try.ntmps18
    go_wp2_with fail
    refine HC.out.mono ?_
    clear HC
    rintro e w1 ⟨rfl, hb1⟩
    have HB1 := Lib.hid hb1
    clear hb1
    go_wp2_with fail
    go_ret2
    exact ⟨.inl ⟨HV.out, rfl⟩, HB1.out⟩
#print axioms Strata_any
/-- what the reference's Strata returns -/
def StRE (l : List RRule) (B : Nat) (w' : World) (e : Ending) : Prop :=
  (NoStr l ∧ e = .returned (.tuple #[.slice none 0 0, .int .i64 8])) ∨ (∃ a c L, e = .returned (.tuple #[.slice a 6 c, .int .i64 0]) ∧ OwnInts B w' (.slice a 6 c) L ∧ Str l L)
set_option maxRecDepth 100000 in
set_option maxHeartbeats 16000000 in
theorem StrataR_any (l : List RRule) (hval : ValR l []) (v : Value) (w : World) (hv : Rules w v l) :
    Calls Try.prog 23 #[v] w fun e w' => StRE l w.heap.size w' e ∧ Below w.heap.size w w' := by
  obtain ⟨a, b, off, cap, rfl, hle, hia, _, hcs⟩ := Rules.get hv
  obtain ⟨n, hn⟩ : ∃ x, x = l.length := ⟨_, rfl⟩
  have Hn := Lib.hid hn
  have hn10 : n ≤ 10 := by rw [hn]; exact hval.l10
  have Hb3 := Lib.hid hval.b3
  have hat := hval.ats
  rw [← hn] at hle hia hcs ⊢
  have Hix := Lib.hid (run_ix (P := Try.prog) (t := 22) (a := a) (len := n) (cap := cap) (b := b) (off := off) (s := 3) Try.underlying22 (by intro w; kernel_rfl) hia)
  have Hc := Lib.hid hcs
  have Hat := Lib.hid hat
  obtain ⟨i0, hi, hz, hzz, hby⟩ := info_parts infoInt
  have Hi := Lib.hid hi
  have Hz := Lib.hid hz
  have Hzz := Lib.hid hzz
  have Hby := Lib.hid (show i0.bytes * 6 ≤ 281474976710656 from by rw [hby]; omega)
  obtain ⟨g, hg⟩ : ∃ x, x = w.heap.size := ⟨_, rfl⟩
  have Hg := Lib.hid hg
  have Hixg := Lib.hid (run_ix (P := Try.prog) (t := 23) (a := some ⟨g, 0, none⟩) (len := 6) (cap := 6) (b := g) (off := 0) (s := 1) Try.underlying23 (by intro w; kernel_rfl) (fun _ => rfl))
  simp only [Nat.mul_one, Nat.zero_add] at Hixg
  clear hv hia hcs hn hi hz hzz hby hg hat hval
  go_enter Try.func23, Try.ntmps23
  go_upto_region 2 with (first | (refine wpList_make_full _ rfl (.const (.int .i64 6)) (.const (.int .i64 6)) 23 rfl w.heap.size 3 i0 (.int .i64 0) 1 Try.underlying23 Hi.out Hz.out Hzz.out .i64 .i64 _ _ 6 rfl rfl rfl rfl Hby.out (by unfold maxLen; omega) (Nat.le_refl _) ?_; intro w1 hown hgr))
  have HS0 := Lib.hid (show Sk w w1 g [0, 0, 0, 0, 0, 0] from by
    refine ⟨⟨hgr.os, hgr.tape, hgr.output, hgr.size, fun k hk => hgr.block k hk (by simp)⟩, by rw [Hg.out]; exact Nat.le_refl _, ?_⟩
    have := hown
    have e : (madeCells (Value.int .i64 0).cells (6 * 1)).toList = ([0, 0, 0, 0, 0, 0] : List Int).map (Value.int .i64) := by kernel_rfl
    rw [← Hg.out, e] at this
    rw [← Hg.out]
    exact this)
  have Hbase := Lib.hid (show g = w.heap.size from Hg.out)
  rw [← Hg.out]
  clear hown hgr Hi Hz Hzz Hby
  go_wp2_with fail
  go_loopw [13] (fun vi wr => ∃ (i : Nat) (L : List Int), vi = .int .i64 i ∧ i ≤ 60 ∧ Sk w wr g L ∧ SvR l L (i * 40) ∧ (Sol l L ∨ (i : Int) ≤ s6 L)) (fun vi _ => 60 - (intOf vi).toNat)
  case atStart => exact ⟨0, _, rfl, by omega, HS0.out, svr_0 l, .inr (by show ((0 : Nat) : Int) ≤ 0; omega)⟩
  case round =>
    generalize wr = wx at *
    clear HS0
    obtain ⟨i, L, rfl, hi60, hS, hV, hC⟩ := hrel
    have HS := Lib.hid hS
    have HV := Lib.hid hV
    have HC := Lib.hid hC
    clear hS hV hC
    by_cases hi6 : i < 60
    · have hii : (i : Int) < 60 := by omega
      go_wp2_with fail
      go_loopw [17] (fun vi wr => ∃ (k : Nat) (L' : List Int), vi = .int .i64 k ∧ k ≤ n ∧ Sk w wr g L' ∧ RdR l L L' (i * 40 + k * 4) k 0) (fun vi _ => n - (intOf vi).toNat)
      case atStart => exact ⟨0, L, rfl, Nat.zero_le _, HS.out, rdr_0 HV.out⟩
      case round =>
        generalize wr = wy at *
        clear HS
        obtain ⟨k, L', rfl, hk, hS, hR⟩ := hrel
        have HS := Lib.hid hS
        have HR := Lib.hid hR
        clear hS hR
        by_cases hlt : k < n
        · obtain ⟨ua, uc, va, vc, hc0, hc1, hc2, hui, hvi⟩ := Hc.out k hlt
          have hc0 := Below.keep HS.out.b hc0
          have hc1 := Below.keep HS.out.b hc1
          have hc2 := Below.keep HS.out.b hc2
          have hixk := Hix.out k
          have hlt2 : k < l.length := by rw [← Hn.out]; exact hlt
          have HMr := Lib.hid (show rR l k ∈ l from by rw [rR_get hlt2]; exact List.getElem_mem hlt2)
          have HNx := Lib.hid (fun L' K (h : RdR l L L' K k (rR l k).2.length) => rdr_next h hlt2 rfl)
          have HLt := Lib.hid (fun L' K j m (h : RdR l L L' K k j) (h1 : j < (rR l k).2.length) hm => rdr_lit (m := m) h Hat.out hlt2 h1 hm)
          obtain ⟨r, hrr⟩ : ∃ x, x = rR l k := ⟨_, rfl⟩
          rw [← hrr] at hc0 hc1 hc2 hvi HMr HNx HLt
          obtain ⟨hr, hhr⟩ : ∃ x, x = r.1.1 := ⟨_, rfl⟩
          rw [← hhr] at hc0 HLt
          obtain ⟨un, hun⟩ : ∃ x, x = r.1.2.length := ⟨_, rfl⟩
          obtain ⟨vn, hvn⟩ : ∃ x, x = r.2.length := ⟨_, rfl⟩
          have Hvn := Lib.hid hvn
          have hvn3 : vn ≤ 3 := by rw [hvn]; exact Hb3.out r HMr.out
          rw [hrr, ← hrr, ← hun] at hc1
          rw [← hvn] at hc2 hvi HNx
          have Hvi := Lib.hid hvi
          have hh := (Hat.out r HMr.out).1.1
          rw [← hhr] at hh
          obtain ⟨hN, rfl⟩ : ∃ x : Nat, hr = x := ⟨hr.toNat, by omega⟩
          rw [Int.toNat_natCast] at HLt
          have hN6 : hN < 6 := by omega
          obtain ⟨w3, hw3⟩ : ∃ x, x = wy.alloc (.cells #[.int .i64 (hN : Int), .slice ua un uc, .slice va vn vc] 86) := ⟨_, rfl⟩
          have hb3 : Below wy.heap.size wy w3 := by rw [hw3]; exact below_alloc _ _
          obtain ⟨bx, hbx⟩ : ∃ x, x = wy.heap.size := ⟨_, rfl⟩
          have HX := Lib.hid (show w3.heap[bx]? = some (.cells #[.int .i64 (hN : Int), .slice ua un uc, .slice va vn vc] 86 (0, 0)) from by rw [hw3, hbx]; exact heap_alloc_new _ _)
          have Hne := Lib.hid (show bx ≠ g from by have := HS.out.lt; omega)
          have HS3 := Lib.hid (HS.out.keep hb3)
          have Hw3 := Lib.hid hw3
          have Hbx := Lib.hid hbx
          clear hrr hun hvn hui hvi hhr hw3 hb3 hbx hlt2 hh
          go_upto_region 7 with fail
          rw [← Hw3.out, ← Hbx.out]
          clear Hw3 hc0 hc1 hc2 hixk
          have g2 := aCell HX.out 2 rfl
          obtain ⟨a5, b5, off5, cap5, he5, hvl, hia5, _, hcs5⟩ := Lits.get Hvi.out
          rw [← Hvn.out] at he5 hia5 hcs5 hvl
          injection he5 with e1 e2 e3
          subst e1 e3
          have Hix5 := Lib.hid (run_ix (P := Try.prog) (t := 84) (a := va) (len := vn) (cap := vc) (b := b5) (off := off5) (s := 3) Try.underlying84 (by intro w; kernel_rfl) hia5)
          have Hc5 := Lib.hid hcs5
          clear hia5 hcs5 e2
          go_wp2_with fail
          clear g2
          go_loopw [24] (fun vi wr => ∃ (j : Nat) (L' : List Int), vi = .int .i64 j ∧ j ≤ vn ∧ Sk w wr g L' ∧ RdR l L L' (i * 40 + k * 4 + j) k j ∧ wr.heap[bx]? = some (.cells #[.int .i64 (hN : Int), .slice ua un uc, .slice va vn vc] 86 (0, 0))) (fun vi _ => vn - (intOf vi).toNat)
          case atStart => exact ⟨0, L', rfl, Nat.zero_le _, HS3.out, HR.out, HX.out⟩
          case round =>
            generalize wr = wz at *
            clear HS HR HS3 HX
            obtain ⟨j, L', rfl, hj, hS, hR, hX⟩ := hrel
            have HS := Lib.hid hS
            have HR := Lib.hid hR
            have HX := Lib.hid hX
            clear hS hR hX
            by_cases hlj : j < vn
            · obtain ⟨xa, xc, hd0, hd1, hd2, hxi⟩ := Hc5.out j hlj
              have hd0 := Below.keep HS.out.b hd0
              have hd1 := Below.keep HS.out.b hd1
              have hd2 := Below.keep HS.out.b hd2
              have hixj := Hix5.out j
              have hlj2 : j < r.2.length := by rw [← Hvn.out]; exact hlj
              have HMb := Lib.hid (show lL r.2 j ∈ r.2 from by rw [lL_get hlj2]; exact List.getElem_mem hlj2)
              have HLj := Lib.hid (fun m hm => HLt.out L' (i * 40 + k * 4 + j) j m HR.out hlj2 hm)
              obtain ⟨⟨N, s, X⟩, hbb⟩ : ∃ x, x = lL r.2 j := ⟨_, rfl⟩
              rw [← hbb] at hd0 hd1 hd2 HMb HLj
              simp only at hd0 hd1 hd2 HLj
              obtain ⟨xn, hxn⟩ : ∃ x, x = X.length := ⟨_, rfl⟩
              rw [← hxn] at hd2
              have hs := ((Hat.out r HMr.out).2 _ HMb.out).1
              simp only at hs
              obtain ⟨sN, rfl⟩ : ∃ x : Nat, s = x := ⟨s.toNat, by omega⟩
              have hs6 : sN < 6 := by omega
              obtain ⟨w5, hw5⟩ : ∃ x, x = wz.alloc (.cells #[.bool N, .int .i64 (sN : Int), .slice xa xn xc] 88) := ⟨_, rfl⟩
              have hb5 : Below wz.heap.size wz w5 := by rw [hw5]; exact below_alloc _ _
              obtain ⟨bl, hbl⟩ : ∃ x, x = wz.heap.size := ⟨_, rfl⟩
              have HL := Lib.hid (show w5.heap[bl]? = some (.cells #[.bool N, .int .i64 (sN : Int), .slice xa xn xc] 88 (0, 0)) from by rw [hw5, hbl]; exact heap_alloc_new _ _)
              have HS5 := Lib.hid (HS.out.keep hb5)
              have HX5 := Lib.hid (blk_keep2 HX.out hb5)
              have hlen := HR.out.sv.len
              have hrs := HR.out.sv.rng sN hs6
              have hrh := HR.out.sv.rng hN hN6
              have HcS := Lib.hid (ownI_cellR HS5.out.o hlen.symm (list6 hlen hs6))
              have HcH := Lib.hid (ownI_cellR HS5.out.o hlen.symm (list6 hlen hN6))
              have HfH := Lib.hid (World.ownsRow.frozenAt (show w5.ownsRow w.heap.size 3 1 (.slice (some ⟨g, 0, none⟩) 6 6) 6 (L'.map (Value.int .i64)) from by have := HS5.out.o; unfold OwnInts at this; rw [hlen] at this; exact this) hN)
              have Hat5 : atL L' (sN : Int) = L'.getD sN 0 ∧ atL L' (hN : Int) = L'.getD hN 0 := ⟨by unfold atL; rw [Int.toNat_natCast], by unfold atL; rw [Int.toNat_natCast]⟩
              rw [Hat5.1, Hat5.2] at HLj
              have Hlen := Lib.hid hlen
              have hixs := Hixg.out sN
              have hixh := Hixg.out hN
              have Hw5 := Lib.hid hw5
              have Hbl := Lib.hid hbl
              obtain ⟨xs, hxs⟩ : ∃ x, x = L'.getD sN 0 := ⟨_, rfl⟩
              obtain ⟨xh, hxh⟩ : ∃ x, x = L'.getD hN 0 := ⟨_, rfl⟩
              rw [← hxs] at hrs HcS HLj
              rw [← hxh] at hrh HcH HLj
              clear hbb hxn hxi hw5 hb5 hbl hlj2 hs hlen hxs hxh Hat5
              go_upto_region 10 with fail
              rw [← Hw5.out, ← Hbl.out]
              clear Hw5 hd0 hd1 hd2 hixj
              have g0 := aCell HL.out 0 rfl
              have g1 := aCell HL.out 1 rfl
              have gh := aCell HX5.out 0 rfl
              have gs := HcS.out
              have gx := HcH.out
              have gf := HfH.out
              obtain ⟨lt, hlt3⟩ : ∃ x, x = xs + nt N := ⟨_, rfl⟩
              rw [← hlt3] at HLj
              have hle6 : 0 ≤ lt ∧ lt ≤ 3000 := by unfold nt at hlt3; split at hlt3 <;> omega
              have hN1 : N = true → IntKind.i64.wrap (xs + 1) = lt := fun h => by subst h; rw [show xs + 1 = lt from by rw [hlt3]; rfl]; exact IntWalk.i64_in _ ⟨by omega, by omega⟩
              have hN0 : N = false → lt = xs := fun h => by subst h; rw [hlt3]; unfold nt; simp
              clear hlt3
              clear HS HX
              obtain ⟨M, hM⟩ : ∃ x, x = (if xh < lt then lt else xh) := ⟨_, rfl⟩
              have HR' := Lib.hid (HLj.out M hM)
              have HSs := Lib.hid (HS5.out.set Hlen.out hN M)
              have HXs := Lib.hid (show (w5.setCell ⟨g, hN, none⟩ (.int .i64 M)).heap[bx]? = some (.cells #[.int .i64 (hN : Int), .slice ua un uc, .slice va vn vc] 86 (0, 0)) from (heap_setCell_other w5 ⟨g, hN, none⟩ bx _ Hne.out).trans HX5.out)
              clear HLj HcS HcH HfH
              cases N
              · obtain rfl := hN0 rfl
                clear hN1 hN0
                go_upto_region 13 with fail
                go_region
                rw [← hM]
                have HSd := Lib.hid (show Sk w (w5.setCell ⟨g, hN, none⟩ (.int .i64 M)).drew g (L'.set hN M) from ⟨HSs.out.b.drew, HSs.out.z, World.ownsRow.drew HSs.out.o⟩)
                have HXd := Lib.hid (show (w5.setCell ⟨g, hN, none⟩ (.int .i64 M)).drew.heap[bx]? = some (.cells #[.int .i64 (hN : Int), .slice ua un uc, .slice va vn vc] 86 (0, 0)) from HXs.out)
                generalize (w5.setCell ⟨g, hN, none⟩ (.int .i64 M)).drew = wd at *
                clear g0 g1 gh gs gx gf hM
                go_wp2_with fail
                go_roundw
                case rel => exact ⟨j + 1, _, by go_num, by omega, HSd.out, HR'.out, HXd.out⟩
                case measure => simp [intOf]; omega
              · have hw := hN1 rfl
                clear hN1 hN0
                go_upto_region 13 with fail
                go_region
                rw [← hM]
                have HSd := Lib.hid (show Sk w (w5.setCell ⟨g, hN, none⟩ (.int .i64 M)).drew g (L'.set hN M) from ⟨HSs.out.b.drew, HSs.out.z, World.ownsRow.drew HSs.out.o⟩)
                have HXd := Lib.hid (show (w5.setCell ⟨g, hN, none⟩ (.int .i64 M)).drew.heap[bx]? = some (.cells #[.int .i64 (hN : Int), .slice ua un uc, .slice va vn vc] 86 (0, 0)) from HXs.out)
                generalize (w5.setCell ⟨g, hN, none⟩ (.int .i64 M)).drew = wd at *
                clear g0 g1 gh gs gx gf hM
                go_wp2_with fail
                go_roundw
                case rel => exact ⟨j + 1, _, by go_num, by omega, HSd.out, HR'.out, HXd.out⟩
                case measure => simp [intOf]; omega
            · obtain rfl : j = vn := by omega
              have HR' := Lib.hid ((HNx.out L' _ HR.out).mono (show i * 40 + k * 4 + j ≤ i * 40 + (k + 1) * 4 by omega))
              go_wp2_with fail
              go_roundw
              case rel => exact ⟨k + 1, L', by go_num, by omega, HS.out, HR'.out⟩
              case measure => simp [intOf]; omega
        · obtain rfl : k = n := by omega
          have HE := Lib.hid (rdr_end HC.out (show RdR l L L' (i * 40 + k * 4) l.length 0 from by rw [← Hn.out]; exact HR.out))
          have HV2 := Lib.hid (HR.out.sv.mono (show i * 40 + k * 4 ≤ (i + 1) * 40 by omega))
          go_wp2_with fail
          go_roundw
          case rel => exact ⟨i + 1, L', by go_num, by omega, HS.out, HV2.out, HE.out⟩
          case measure => simp [intOf]; omega
    · have hi6' : ¬ (i : Int) < 60 := by omega
      have HC2 := Lib.hid (show Sol l L ∨ ((60 : Nat) : Int) ≤ s6 L from by
        have e : i = 60 := by omega
        have := HC.out
        rwa [e] at this)
      clear HC
      go_wp2_with fail
      go_loopw [56] (fun vi wr => ∃ t : Nat, vi = .int .i64 t ∧ t ≤ 6 ∧ Sk w wr g L ∧ ∀ s, s < t → L.getD s 0 ≤ 5) (fun vi _ => 6 - (intOf vi).toNat)
      case atStart => exact ⟨0, rfl, by omega, HS.out, fun s hs => by omega⟩
      case round =>
        generalize wr = wy at *
        clear HS
        obtain ⟨t, rfl, ht, hS, hQ⟩ := hrel
        have HS := Lib.hid hS
        have HQ := Lib.hid hQ
        clear hS hQ
        by_cases ht6 : t < 6
        · have hc := ownI_cellR HS.out.o HV.out.len.symm (list6 HV.out.len ht6)
          have hrs := HV.out.rng t ht6
          have hixt := Hixg.out t
          have HN := Lib.hid (fun (h : 5 < L.getD t 0) => svr_no HV.out ht6 h)
          have HN2 := Lib.hid (fun (h : L.getD t 0 ≤ 5) => show ∀ s, s < t + 1 → L.getD s 0 ≤ 5 from fun s hs => by
            by_cases e : s = t
            · subst e; exact h
            · exact HQ.out s (by omega))
          obtain ⟨xs, hxs⟩ : ∃ x, x = L.getD t 0 := ⟨_, rfl⟩
          rw [← hxs] at hc hrs HN HN2
          clear hxs
          by_cases c : 5 < xs
          · have R := Lib.hid (HN.out c)
            clear HN HN2
            go_wp2_with fail
            go_ret2
            exact ⟨.inl ⟨R.out, rfl⟩, HS.out.b⟩
          · have R := Lib.hid (HN2.out (by omega))
            clear HN HN2
            go_wp2_with fail
            go_roundw
            case rel => exact ⟨t + 1, by go_num, by omega, HS.out, R.out⟩
            case measure => simp [intOf]; omega
        · obtain rfl : t = 6 := by omega
          have HE := Lib.hid (svr_str HV.out HC2.out HQ.out)
          go_wp2_with fail
          go_ret2
          exact ⟨.inr ⟨_, _, L, rfl, HS.out.o, HE.out⟩, HS.out.b⟩
#print axioms StrataR_any
end Go.Proofs.Ythndplkjhbmfmaa

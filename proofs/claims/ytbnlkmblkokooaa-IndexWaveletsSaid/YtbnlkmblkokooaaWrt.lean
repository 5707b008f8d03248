/- Contracts of WriteRune of ASCII and of write. -/
import Derived.Test.YtbnlkmblkokooaaRnk
namespace Go.Proofs.Ytbnlkmblkokooaa
open Go.RowKit
/-- what AppendRune returns -/
def ApPost (B : Nat) (v : Value) (l : Bs) (w : World) (e : Ending) (w' : World) : Prop := ∃ g cap, e = .returned (.slice (some ⟨g, 0, none⟩) l.length cap) ∧ OwnByts B w' (.slice (some ⟨g, 0, none⟩) l.length cap) l ∧ Below B w w' ∧ w.grownBy w' v.ownBlock
set_option maxHeartbeats 2000000 in
set_option maxRecDepth 100000 in
theorem aprune_any (B : Nat) (v : Value) (l : Bs) (c : UInt8) (hc : c.toNat ≤ 127) (w : World) (hv : OwnByts B w v l) (hl : l.length ≤ 1000000) (hB : B ≤ w.heap.size) :
    Calls Try.prog 116 #[v, .int .i32 c.toNat] w (ApPost B v (l ++ [c]) w) := by
  obtain ⟨a, cap, rfl⟩ := own_slice hv
  have HV := Lib.hid hv
  have hcw : IntKind.u32.wrap (c.toNat : Int) = (c.toNat : Int) := by rw [IntKind.wrap_u32]; omega
  have hcb : IntKind.u8.wrap (c.toNat : Int) = (c.toNat : Int) := by rw [IntKind.wrap_u8]; omega
  have Hl := Lib.hid hl
  clear hv hl
  go_enter Try.func116, Try.ntmps116
  go_wp2_with (at_builtin; refine append_own rfl (.tmp 8) (.tmp 11) 53 rfl elemBytes rfl (World.ownsRow.alloc HV.out _) [.int .u8 c.toNat] rfl rfl ?c1 ?c2 ?c3 ?c4 ?_)
  case c1 => intro q u hq; exact new_one _ _ _ hq
  case c2 => intro u hu; simp at hu; subst hu; rfl
  case c3 => have := Hl.out; omega
  case c4 => simp; omega
  intro v' w2 hown' hb2 hgrow
  obtain ⟨g, cap', rfl⟩ : ∃ g cap', v' = .slice (some ⟨g, 0, none⟩) (l.length + 1) cap' := by
    rcases hown'.2 with ⟨_, h0⟩ | ⟨g, cap', cur, hv, _⟩
    · omega
    · exact ⟨g, cap', hv⟩
  have HO := Lib.hid (show OwnByts B w2 (.slice (some ⟨g, 0, none⟩) (l.length + 1) cap') (l ++ [c]) from OwnByts.snoc hown')
  have HB := Lib.hid (show Below B w w2 from ((Below.refl B w).alloc hB _).trans hb2)
  have HG := Lib.hid hgrow
  clear hown' hb2 hgrow
  go_wp2
  go_ret
  refine ⟨g, cap', by rw [List.length_append]; rfl, by rw [List.length_append]; exact HO.out, HB.out, ?_⟩
  have h := HG.out
  exact ⟨h.os, h.tape, h.output, by have := h.size; simp at this; omega, fun k hk hne => (h.block k (by simp; omega) hne).trans (Lib.alloc_old w _ k hk)⟩
#print axioms aprune_any
set_option maxHeartbeats 2000000 in
set_option maxRecDepth 100000 in
theorem wrune_any (B b : Nat) (l : Bs) (c : UInt8) (hc : c.toNat ≤ 127) (w : World) (h : Bld B b l w) (hl : l.length ≤ 100000) (hBw : B ≤ w.heap.size) :
    Calls Try.prog 87 #[.pointer (some ⟨b, 0, none⟩), .int .i32 c.toNat] w (WrPost B b (l ++ [c]) w (.tuple #[.int .i64 1, .nilIface])) := by
  have HC := Lib.hid (check_any2 B b (Lib.byteCells l) w h)
  have HL := Lib.hid (bcells_len l)
  obtain ⟨n, hn⟩ : ∃ n, n = l.length := ⟨_, rfl⟩
  have hn1 : n ≤ 100000 := by omega
  have HN := Lib.hid hn
  have HA := Lib.hid (fun v w hv hB => aprune_any B v l c hc w hv (by omega) hB)
  clear h hl hn
  go_enter Try.func87, Try.ntmps87
  go_wp2_with fail
  refine HC.out.mono ?_
  rintro e w1 ⟨rfl, ⟨hB, v, hbk, hown, hne⟩, hb1, hk1⟩
  have hlt : b < w1.heap.size := (Array.getElem?_eq_some_iff.1 hbk).1
  rw [HL.out] at hown
  have hown2 : OwnByts B w1 v l := hown
  obtain ⟨a0, c0, rfl⟩ := own_slice hown2
  rw [← HN.out] at hbk
  have c1 : w1.cell? ⟨b, 1, none⟩ = some (.slice a0 n c0) := by rw [Lib.cell_of_heap hbk]; rfl
  have hB1 := hb1.size
  have HA1 := Lib.hid (HA.out _ w1 hown2 (by omega))
  rw [← HN.out] at HA1
  have Hbk := Lib.hid hbk
  have Hown := Lib.hid hown2
  have Hne := Lib.hid hne
  have Hb1 := Lib.hid hb1
  have Hk1 := Lib.hid hk1
  clear hbk hown hown2 hne hb1 hk1
  go_wp2_with fail
  refine HA1.out.mono ?_
  rintro e w2 ⟨g, cap, rfl, ho2, hb2, hgrow⟩
  have hbk2 : w2.heap[b]? = some (.cells #[.pointer (some ⟨b, 0, none⟩), .slice a0 n c0] 63 (0, 0)) := by
    rw [hgrow.block b hlt (fun e => by have := Hne.out; rw [← HN.out] at this; exact this e.symm)]
    exact Hbk.out
  have hk2 : Lib.OthersKept 5 (some b) w w2 := Hk1.out.grown hgrow (by
    have := own_kind Hown.out
    rw [← HN.out] at this
    exact this)
  have d1 : w2.cell? ⟨b, 1, none⟩ = some (.slice a0 n c0) := by rw [Lib.cell_of_heap hbk2]; rfl
  have f1 : w2.frozen? ⟨b, 1, none⟩ = false := Lib.frozen_of_heap hbk2 1
  have hlen : (l ++ [c]).length = n + 1 := by rw [List.length_append, List.length_singleton, ← HN.out]
  rw [hlen] at ho2 ⊢
  have Hfin := Lib.hid (show Bld B b (l ++ [c]) (w2.setCell ⟨b, 1, none⟩ (.slice (some ⟨g, 0, none⟩) (n + 1) cap)) from by
    refine Or.inr (Lib.BuilderAt.put hB hbk2 (bs' := Lib.byteCells (l ++ [c])) ?_ (by decide))
    rw [bcells_len]
    exact ho2)
  have Hb3 := Lib.hid (show Below B w w2 from Hb1.out.trans hb2)
  have Hk2 := Lib.hid hk2
  have hone : (n : Int) + 1 - (n : Int) = 1 := by omega
  clear ho2 hb2 hgrow hbk2 hk2 hlen
  go_wp2
  go_ret2
  exact ⟨rfl, Hfin.out, Hb3.out.setCell (p := ⟨b, 1, none⟩) hB _, Hk2.out.setCell ⟨b, 1, none⟩ rfl _⟩
#print axioms wrune_any
theorem Node.others {B0 B b : Nat} {l : Bs} {w w' : World} {L S : Bs} {v : Value} (h : Node B0 w L S v) (hB : Bld B b l w) (hk : Lib.OthersKept 5 (some b) w w') : Node B0 w' L S v := by
  have key : ∀ {g : Nat} {lo hi vs : Value} {c : UInt8}, NBlk w g lo hi c vs → NBlk w' g lo hi c vs := by
    intro g lo hi vs c hn
    refine hk g _ hn (fun e1 => ?_) (fun c fz e1 => ?_)
    · obtain ⟨cs, hcs⟩ := hB.at
      unfold NBlk at hn
      rw [← Option.some.inj e1, hn] at hcs
      injection hcs with hcs
      injection hcs with _ ht
      exact absurd ht (by decide)
    · injection e1 with _ ht
      exact absurd ht (by decide)
  induction h with
  | leaf h1 h2 h3 => exact .leaf h1 h2 (key h3)
  | node h1 h2 h3 h4 _ _ ih1 ih2 => exact .node h1 h2 (key h3) (others_owns hB h4 hk (by decide) (by decide)) ih1 ih2
theorem wav_len : ∀ (d : Nat) (L S : Bs), L.length ≤ 2 ^ d → (wav L S).length ≤ S.length * d
  | 0, L, S, h => by rw [wav_small (by omega)]; simp
  | d + 1, L, S, h => by
    by_cases h2 : 2 ≤ L.length
    · have hp : 2 ^ (d + 1) = 2 * 2 ^ d := by rw [Nat.pow_succ]; omega
      have hh : half L.length ≤ 2 ^ d := by unfold half; omega
      have e1 := wav_len d (L.take (half L.length)) (loS (spl L) S) (by rw [List.length_take]; omega)
      have e2 := wav_len d (L.drop (half L.length)) (hiS (spl L) S) (by rw [List.length_drop]; unfold half; omega)
      have e3 : (loS (spl L) S).length + (hiS (spl L) S).length = S.length := by
        unfold loS hiS
        rw [← List.countP_eq_length_filter, ← List.countP_eq_length_filter]
        exact countP_not _ _
      rw [wav_node h2, List.length_append, List.length_append]
      have e4 : (bitsOf (spl L) S).length = S.length := by simp [bitsOf]
      have e5 : (loS (spl L) S).length * d + (hiS (spl L) S).length * d = S.length * d := by rw [← Nat.add_mul, e3]
      rw [Nat.mul_succ]
      omega
    · rw [wav_small h2]; simp
theorem bits_get {d : UInt8} {S : Bs} {i : Nat} (h : i < S.length) : (bitsOf d S).take (i + 1) = (bitsOf d S).take i ++ [if high d S[i] then 49 else 48] := by
  have h' : i < (bitsOf d S).length := by simpa [bitsOf] using h
  rw [List.take_succ_eq_append_getElem h']
  simp [bitsOf]
set_option maxHeartbeats 4000000 in
set_option maxRecDepth 100000 in
theorem write_any : ∀ (m : Nat) (L S : Bs) (v : Value) (B0 B b : Nat) (l : Bs) (w : World), L.length < m → Node B0 w L S v → S.length ≤ 1000 → Bld B b l w → l.length + (wav L S).length ≤ 100000 → B ≤ w.heap.size →
    Calls Try.prog 62 #[v, .pointer (some ⟨b, 0, none⟩)] w (WrPost B b (l ++ wav L S) w (.tuple #[])) := by
  intro m
  induction m with
  | zero => intro _ _ _ _ _ _ _ _ h; exact absurd h (Nat.not_lt_zero _)
  | succ m ih =>
    intro L S v B0 B b l w hm hn hS hb hl hB
    obtain ⟨g, rfl⟩ := hn.ptr
    by_cases h2 : 2 ≤ L.length
    · obtain ⟨p1, p2, vs, hnb, hov, hlo, hhi⟩ := hn.lo h2
      obtain ⟨gv, cv, rfl, hcv, hixv⟩ := ones_ix hov
      obtain ⟨d, hd⟩ : ∃ d, d = spl L := ⟨_, rfl⟩
      obtain ⟨N, hN⟩ : ∃ N, N = S.length := ⟨_, rfl⟩
      obtain ⟨k, hk⟩ : ∃ k, k = S.length + 1 := ⟨_, rfl⟩
      rw [← hd] at hnb hov hcv hlo hhi
      have hhf := half_lt h2
      have hw := wav_node (S := S) h2
      rw [← hd] at hw
      have hbl : (bitsOf d S).length = N := by rw [hN]; simp [bitsOf]
      rw [hw, List.length_append, List.length_append, hbl] at hl
      have HL1 := Lib.hid (show (L.take (half L.length)).length < m by rw [List.length_take]; omega)
      have HL2 := Lib.hid (show (L.drop (half L.length)).length < m by rw [List.length_drop]; omega)
      have HLo := Lib.hid hlo
      have HHi := Lib.hid hhi
      have HNb := Lib.hid hnb
      have HNd := Lib.hid hn
      have HOv := Lib.hid hov
      have HCv := Lib.hid hcv
      have HIx := Lib.hid hixv
      have IH := Lib.hid ih
      have HN := Lib.hid hN
      have HK := Lib.hid hk
      have HD := Lib.hid hd
      have HW := Lib.hid hw
      have HB := Lib.hid hb
      have Hl := Lib.hid hl
      have HBl := Lib.hid hbl
      obtain ⟨hc0, hc1, hc2, hc3⟩ := hnb.cells
      have HLf := Lib.hid (leaf_no g p1 w hc0)
      have hkN : k = N + 1 := by omega
      have hN1 : N ≤ 1000 := by omega
      clear hnb hov hcv hixv hlo hhi hn ih hk hd hw hb hl hbl hhf h2 hN hm
      go_enter Try.func62, Try.ntmps62
      go_wp2_with fail
      refine HLf.out.mono ?_
      rintro e w' ⟨rfl, rfl⟩
      clear hc0 hc1 hc2 hc3
      go_wp2_with fail
      go_loopw [4] (fun vi wr => ∃ i : Nat, vi = .int .i64 ((i : Int) + 1) ∧ i ≤ N ∧ Bld B b (l ++ (bitsOf d S).take i) wr ∧ Below B w wr ∧ Lib.OthersKept 5 (some b) w wr) (fun vi _ => N + 1 - (intOf vi).toNat)
      case atStart => exact ⟨0, rfl, Nat.zero_le _, by simpa using HB.out, Below.refl _ _, Lib.OthersKept.refl _ _ _⟩
      case round =>
        obtain ⟨i, rfl, hi, hbl, hbe, hot⟩ := hrel
        have HNd2 := Lib.hid (HNd.out.others HB.out hot)
        have HBl2 := Lib.hid hbl
        have HBe := Lib.hid hbe
        have HOt := Lib.hid hot
        clear hbl hbe hot
        have hnb2 : NBlk wr g (.pointer (some ⟨p1, 0, none⟩)) (.pointer (some ⟨p2, 0, none⟩)) d (.slice (some ⟨gv, 0, none⟩) k cv) := by
          refine HOt.out g _ (by have := HNb.out; unfold NBlk at this; rw [HK.out]; exact this) (fun e1 => ?_) (fun c fz e1 => ?_)
          · obtain ⟨cs, hcs⟩ := HB.out.at
            have hn := HNb.out
            unfold NBlk at hn
            rw [← Option.some.inj e1, hn] at hcs
            injection hcs with hcs
            injection hcs with _ ht
            exact absurd ht (by decide)
          · injection e1 with _ ht
            exact absurd ht (by decide)
        obtain ⟨hc0, hc1, hc2, hc3⟩ := hnb2.cells
        by_cases hlt : i < N
        · have hlS : i < S.length := by rw [← HN.out]; exact hlt
          have hov2 := others_owns HB.out HOv.out HOt.out (by decide) (by decide)
          rw [onesRow_len] at hov2
          have hcj := hov2.cellAt i (by omega)
          have hcj1 := hov2.cellAt (i + 1) (by omega)
          rw [List.getElem?_map, onesRow_get _ _ (by omega), Option.map_some] at hcj hcj1
          have hixi := fun w => HIx.out i w (by omega)
          have hixj := fun w => HIx.out (i + 1) w (by omega)
          have ez : ((i + 1 : Nat) : Int) = (i : Int) + 1 := by omega
          rw [← HK.out] at hixi hixj
          rw [ez] at hixj
          obtain ⟨o, ho⟩ : ∃ o, o = onesAt d S i := ⟨_, rfl⟩
          obtain ⟨o1, ho1⟩ : ∃ o1, o1 = onesAt d S (i + 1) := ⟨_, rfl⟩
          rw [← ho] at hcj
          rw [← ho1] at hcj1
          obtain ⟨x, hx⟩ : ∃ x : UInt8, x = if high d S[i] then 49 else 48 := ⟨_, rfl⟩
          have hoo : o ≤ i := by rw [ho]; exact onesAt_le _ _ _
          have hcase : (o1 = o ∧ x = 48) ∨ (o1 = o + 1 ∧ x = 49) := by
            rw [ho1, onesAt_succ hlS, ← ho, hx]
            cases high d S[i]
            · exact Or.inl ⟨rfl, rfl⟩
            · exact Or.inr ⟨rfl, rfl⟩
          have hox : IntKind.i64.wrap ((o1 : Int) - (o : Int)) = (x.toNat : Int) - 48 := by
            rw [IntWalk.i64_in _ ⟨by omega, by omega⟩]
            rcases hcase with ⟨e1, e2⟩ | ⟨e1, e2⟩
            · rw [e1, e2]; show _ = ((48 : Nat) : Int) - 48; omega
            · rw [e1, e2]; show _ = ((49 : Nat) : Int) - 48; omega
          have hle : o1 ≤ i + 1 := by rw [ho1]; exact onesAt_le _ _ _
          have hx1 : x.toNat ≤ 49 ∧ 48 ≤ x.toNat := by rw [hx]; cases high d S[i] <;> decide
          have hx2 := hx1.1
          have hx3 := hx1.2
          have hone : (i : Int) + 1 - 1 = (i : Int) := by omega
          have hone2 : IntKind.i64.wrap ((i : Int) + 1 - 1) = (i : Int) := by rw [IntWalk.i64_in _ ⟨by omega, by omega⟩]; omega
          have h48 : 48 + ((x.toNat : Int) - 48) = (x.toNat : Int) := by omega
          have hx32 : IntKind.i32.wrap (x.toNat : Int) = (x.toNat : Int) := IntWalk.i32_in _ ⟨by omega, by omega⟩
          have HBx := Lib.hid (show (bitsOf d S).take (i + 1) = (bitsOf d S).take i ++ [x] by rw [hx]; exact bits_get hlS)
          have hll : (l ++ (bitsOf d S).take i).length ≤ 100000 := by have := Hl.out; rw [List.length_append, List.length_take, HBl.out]; omega
          have HWr := Lib.hid (fun W (hb : Bld B b (l ++ (bitsOf d S).take i) W) (hB : B ≤ W.heap.size) => wrune_any B b (l ++ (bitsOf d S).take i) x (by omega) W hb hll hB)
          have hBr : B ≤ wr.heap.size := by have := HBe.out.size; omega
          clear ho ho1 hx hx1 hll hov2 hle ez hcase
          go_wp2_with fail
          go_quiet (fail)
          go_wp2_with fail
          have HB5 := Lib.hid (show Bld B b (l ++ (bitsOf d S).take i) (wr.drewN nq) from HBl2.out.keep (bdrewN (Below.refl _ _) nq))
          have HBe5 := Lib.hid (show Below B w (wr.drewN nq) from bdrewN HBe.out nq)
          have HOt5 := Lib.hid (show Lib.OthersKept 5 (some b) w (wr.drewN nq) from fun k o h hb ho => HOt.out k o h hb ho)
          have hBr5 : B ≤ (wr.drewN nq).heap.size := hBr
          clear hnb2 hc0 hc1 hc2 hc3 hcj hcj1
          generalize wr.drewN nq = w5 at *
          refine (HWr.out w5 HB5.out hBr5).mono ?_
          rintro e w6 ⟨rfl, hb6, hbe6, hot6⟩
          have HB6 := Lib.hid (show Bld B b (l ++ (bitsOf d S).take (i + 1)) w6 from by rw [HBx.out, ← List.append_assoc]; exact hb6)
          have HBe6 := Lib.hid (HBe5.out.trans hbe6)
          have HOt6 := Lib.hid (HOt5.out.trans hot6)
          clear hb6 hbe6 hot6
          go_wp2_with fail
          go_roundw
          case rel => exact ⟨i + 1, by go_num, by omega, HB6.out, HBe6.out, HOt6.out⟩
          case measure => simp [intOf] <;> omega
        · obtain rfl : i = N := by omega
          have htk : (bitsOf d S).take i = bitsOf d S := List.take_of_length_le (by rw [HBl.out]; exact Nat.le_refl _)
          have HTk := Lib.hid htk
          have HLo2 := Lib.hid (HLo.out.others HB.out HOt.out)
          have HHi2 := Lib.hid (HHi.out.others HB.out HOt.out)
          have hBr : B ≤ wr.heap.size := by have := HBe.out.size; omega
          have hb0 : Bld B b (l ++ bitsOf d S) wr := by have := HBl2.out; rwa [htk] at this
          have C1 := Lib.hid (IH.out _ _ _ B0 B b _ wr HL1.out HLo2.out (Nat.le_trans (loS_lenle _ _) hS) hb0 (by have := Hl.out; have := HBl.out; rw [List.length_append]; omega) hBr)
          clear htk hnb2 hc2
          have hd1 : decide ((i : Int) + 1 < (k : Int)) = false := decide_eq_false (by omega)
          have hd2 : ¬ i + 1 < k := by omega
          go_wp2_with fail
          refine C1.out.mono ?_
          rintro e w2 ⟨rfl, hb2, hbe2, hot2⟩
          have hHi3 := HHi2.out.others hb0 hot2
          have HBe2 := Lib.hid (HBe.out.trans hbe2)
          have HOt2 := Lib.hid (HOt.out.trans hot2)
          have hBr2 : B ≤ w2.heap.size := by have := HBe2.out.size; omega
          have C2 := Lib.hid (IH.out _ _ _ B0 B b _ w2 HL2.out hHi3 (Nat.le_trans (hiS_lenle _ _) hS) hb2 (by have := Hl.out; have := HBl.out; rw [List.length_append, List.length_append]; omega) hBr2)
          have hnb3 : NBlk w2 g (.pointer (some ⟨p1, 0, none⟩)) (.pointer (some ⟨p2, 0, none⟩)) d (.slice (some ⟨gv, 0, none⟩) k cv) := by
            refine HOt2.out g _ (by have := HNb.out; unfold NBlk at this; rw [HK.out]; exact this) (fun e1 => ?_) (fun c fz e1 => ?_)
            · obtain ⟨cs, hcs⟩ := HB.out.at
              have hn := HNb.out
              unfold NBlk at hn
              rw [← Option.some.inj e1, hn] at hcs
              injection hcs with hcs
              injection hcs with _ ht
              exact absurd ht (by decide)
            · injection e1 with _ ht
              exact absurd ht (by decide)
          obtain ⟨-, hx1, -, -⟩ := hnb3.cells
          clear hb0 hb2 hbe2 hot2 hHi3 hnb3 hc0 hc1
          go_wp2_with fail
          refine C2.out.mono ?_
          rintro e w3 ⟨rfl, hb3, hbe3, hot3⟩
          have HB3 := Lib.hid hb3
          have HBe3 := Lib.hid (HBe2.out.trans hbe3)
          have HOt3 := Lib.hid (HOt2.out.trans hot3)
          clear hb3 hbe3 hot3
          go_wp2_with fail
          (try simp only [Exit.inBlock, Exit.then]); refine bodyPost_ret (results_none rfl _ _ _) rfl ?_
          refine ⟨rfl, ?_, HBe3.out, HOt3.out⟩
          rw [HW.out, ← List.append_assoc, ← List.append_assoc]
          exact HB3.out
    · have hw := wav_small (S := S) h2
      have hb0 := hn.lf h2
      have HLf := Lib.hid (leaf_yes g w hb0.cells.1)
      have HB := Lib.hid hb
      have HW := Lib.hid hw
      clear hw hb0 hb hl hn ih
      go_enter Try.func62, Try.ntmps62
      go_wp2_with fail
      refine HLf.out.mono ?_
      rintro e w' ⟨rfl, rfl⟩
      go_wp2_with fail
      (try simp only [Exit.inBlock, Exit.then]); refine bodyPost_ret (results_none rfl _ _ _) rfl ?_
      exact ⟨rfl, by rw [HW.out, List.append_nil]; exact HB.out, Below.refl _ _, Lib.OthersKept.refl _ _ _⟩
#print axioms write_any
end Go.Proofs.Ytbnlkmblkokooaa

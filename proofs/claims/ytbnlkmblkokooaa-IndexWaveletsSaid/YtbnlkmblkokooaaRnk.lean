/- Contracts of isLeaf, rank, at. -/
import Derived.Test.YtbnlkmblkokooaaNew
import Derived.Deep.LoopGhost
namespace Go.Proofs.Ytbnlkmblkokooaa
open Go.RowKit
theorem leaf_yes (g : Nat) (w : World) (h : w.cell? ⟨g, 0, none⟩ = some (.pointer none)) :
    Calls Try.prog 86 #[.pointer (some ⟨g, 0, none⟩)] w fun e w' => e = .returned (.bool true) ∧ w = w' := by
  go_enter Try.func86, Try.ntmps86
  go_wp2
  go_ret
  exact ⟨rfl, rfl⟩
theorem leaf_no (g p : Nat) (w : World) (h : w.cell? ⟨g, 0, none⟩ = some (.pointer (some ⟨p, 0, none⟩))) :
    Calls Try.prog 86 #[.pointer (some ⟨g, 0, none⟩)] w fun e w' => e = .returned (.bool false) ∧ w = w' := by
  go_enter Try.func86, Try.ntmps86
  go_wp2
  go_ret
  exact ⟨rfl, rfl⟩
theorem over_leaf {L S : Bs} (h : Over L S) (h1 : L.length ≤ 1) : ∀ x ∈ S, x = L.getD 0 0 := by
  intro x hx
  have hm := h.mem x hx
  match L, h1 with
  | [], _ => cases hm
  | [y], _ => simp at hm; simpa using hm
  | _ :: _ :: _, h1 => simp at h1
theorem leaf_cnt {L S : Bs} (h : Over L S) (h1 : L.length ≤ 1) (c : UInt8) (i : Nat) (hi : i ≤ S.length) : cnt c (S.take i) = if c = L.getD 0 0 then i else 0 := by
  have ha := over_leaf h h1
  unfold cnt
  by_cases e : c = L.getD 0 0
  · rw [if_pos e]
    have : (S.take i).countP (· == c) = (S.take i).length := List.countP_eq_length.2 fun x hx => by
      rw [ha x (List.mem_of_mem_take hx), ← e]; simp
    rw [this, List.length_take]
    omega
  · rw [if_neg e]
    refine List.countP_eq_zero.2 fun x hx => ?_
    rw [ha x (List.mem_of_mem_take hx)]
    simp only [beq_iff_eq]
    exact fun h => e h.symm
theorem Node.draw {B : Nat} {w : World} {L S : Bs} {v : Value} (h : Node B w L S v) (q : Nat) : Node B (w.drewN q) L S v := h.from fun _ _ _ => rfl
theorem Node.lo {B : Nat} {w : World} {L S : Bs} {g : Nat} (h : Node B w L S (.pointer (some ⟨g, 0, none⟩))) (h2 : 2 ≤ L.length) : ∃ p1 p2 vs, NBlk w g (.pointer (some ⟨p1, 0, none⟩)) (.pointer (some ⟨p2, 0, none⟩)) (spl L) vs ∧ OwnInts B w vs (onesRow (spl L) S (S.length + 1)) ∧
    Node B w (L.take (half L.length)) (loS (spl L) S) (.pointer (some ⟨p1, 0, none⟩)) ∧ Node B w (L.drop (half L.length)) (hiS (spl L) S) (.pointer (some ⟨p2, 0, none⟩)) := by
  cases h with
  | leaf h1 => omega
  | node _ _ h3 h4 h5 h6 =>
    obtain ⟨p1, rfl⟩ := h5.ptr
    obtain ⟨p2, rfl⟩ := h6.ptr
    exact ⟨p1, p2, _, h3, h4, h5, h6⟩
theorem Node.lf {B : Nat} {w : World} {L S : Bs} {g : Nat} (h : Node B w L S (.pointer (some ⟨g, 0, none⟩))) (h2 : ¬ 2 ≤ L.length) : NBlk w g (.pointer none) (.pointer none) (L.getD 0 0) (.slice none 0 0) := by
  cases h with
  | leaf _ _ h1 => exact h1
  | node h1 => exact absurd h1 h2
theorem ones_ix {B : Nat} {w : World} {vs : Value} {c : UInt8} {S : Bs} (h : OwnInts B w vs (onesRow c S (S.length + 1))) : ∃ gv cv, vs = .slice (some ⟨gv, 0, none⟩) (S.length + 1) cv ∧ (∀ i, i ≤ S.length → w.cell? ⟨gv, i, none⟩ = some (.int .i64 (onesAt c S i : Nat))) ∧
    ∀ (i : Nat) (w : World), i < S.length + 1 → Sem.run Try.prog (Instr.indexAt 23 (.slice (some ⟨gv, 0, none⟩) (S.length + 1) cv) (.int .i64 i)) w = .ok (.pointer (some ⟨gv, i, none⟩)) w := by
  unfold OwnInts at h
  rw [onesRow_len] at h
  obtain ⟨gv, cv, rfl⟩ : ∃ gv cv, vs = .slice (some ⟨gv, 0, none⟩) (S.length + 1) cv := by
    rcases h.2 with ⟨_, h0⟩ | ⟨gv, cv, cur, hv, _⟩
    · omega
    · exact ⟨gv, cv, hv⟩
  refine ⟨gv, cv, rfl, fun i hi => ?_, fun i w hi => ?_⟩
  · have := h.cellAt i (by omega)
    rwa [List.getElem?_map, onesRow_get _ _ (by omega), Option.map_some] at this
  · have := run_ix (P := Try.prog) (t := 23) (a := some ⟨gv, 0, none⟩) (len := S.length + 1) (cap := cv) (b := gv) (off := 0) (s := 1) Try.underlying23 (by intro w; kernel_rfl) (fun _ => rfl) i w hi
    simpa only [Nat.mul_one, Nat.zero_add] using this
set_option maxHeartbeats 4000000 in
set_option maxRecDepth 100000 in
theorem rank_any (B : Nat) (L S : Bs) (v : Value) (c : UInt8) (i : Nat) (w : World) (hN : Node B w L S v) (hO : Over L S) (hi : i ≤ S.length) (hS : S.length ≤ 1000) :
    Calls Try.prog 67 #[v, .int .u8 c.toNat, .int .i64 i] w fun e w' => e = .returned (.int .i64 (cnt c (S.take i) : Nat)) ∧ ∃ q, w' = w.drewN q := by
  obtain ⟨C, hC⟩ : ∃ C, C = cnt c (S.take i) := ⟨_, rfl⟩
  have HN := Lib.hid hN
  have HO := Lib.hid hO
  rw [← hC]
  have HC := Lib.hid hC
  clear hN hO hC
  go_enter Try.func67, Try.ntmps67
  go_wp2_with fail
  go_loopg [0, 2] (L.length) (fun gk vn vi wr => ∃ (L' S' : Bs) (i' : Nat), L'.length ≤ gk ∧ vi = .int .i64 i' ∧ i' ≤ S'.length ∧ S'.length ≤ 1000 ∧ Node B wr L' S' vn ∧ Over L' S' ∧ cnt c (S'.take i') = C ∧ ∃ q, wr = w.drewN q)
  case atStart => exact ⟨L, S, i, Nat.le_refl _, rfl, hi, hS, HN.out, HO.out, HC.out.symm, 0, rfl⟩
  case round =>
    clear HN HO HC hi hS
    obtain ⟨L', S', i', hgk, rfl, hi, hS, hn, ho, hc, hw⟩ := hrel
    obtain ⟨g, rfl⟩ := hn.ptr
    have HW := Lib.hid hw
    have HN := Lib.hid hn
    have HO := Lib.hid ho
    have HC := Lib.hid hc
    clear hw hn ho hc
    by_cases h2 : 2 ≤ L'.length
    · obtain ⟨p1, p2, vs, hb, hov, hlo, hhi⟩ := HN.out.lo h2
      obtain ⟨gv, cv, rfl, hcv, hixv⟩ := ones_ix hov
      obtain ⟨d, hd⟩ : ∃ d, d = spl L' := ⟨_, rfl⟩
      obtain ⟨m, hm⟩ : ∃ m, m = S'.length + 1 := ⟨_, rfl⟩
      obtain ⟨o, hoo⟩ : ∃ o, o = onesAt d S' i' := ⟨_, rfl⟩
      rw [← hd] at hb hcv hlo hhi
      obtain ⟨hc0, hc1, hc2, hc3⟩ := hb.cells
      have hcvi := hcv i' hi
      have hixi := fun w => hixv i' w (by omega)
      rw [← hm] at hc3 hixi
      rw [← hoo] at hcvi
      have hoi : o ≤ i' := by rw [hoo]; exact onesAt_le _ _ _
      have HLf := Lib.hid (leaf_no g p1 wr hc0)
      have HLo := Lib.hid hlo
      have HHi := Lib.hid hhi
      have HD := Lib.hid hd
      have HOo := Lib.hid hoo
      have H2 := Lib.hid h2
      have hhf := half_lt h2
      have hlen1 : (L'.take (half L'.length)).length ≤ gk - 1 := by rw [List.length_take]; omega
      have hlen2 : (L'.drop (half L'.length)).length ≤ gk - 1 := by rw [List.length_drop]; omega
      have HL1 := Lib.hid hlen1
      have HL2 := Lib.hid hlen2
      have hgk1 : 1 ≤ gk := by omega
      clear hb hov hlo hhi hcv hixv hd hm hoo h2 hhf hlen1 hlen2
      have hi1 : i' ≤ 1000 := by omega
      cases hh : high d c with
      | true =>
        have hle : d.toNat ≤ c.toNat := by unfold high at hh; exact UInt8.le_iff_toNat_le.1 (of_decide_eq_true hh)
        have HH := Lib.hid hh
        clear hh
        go_wp2_with fail
        refine (HLf.out).mono ?_
        rintro e w' ⟨rfl, rfl⟩
        go_wp2_with fail
        go_quiet (fail)
        go_wp2_with fail
        go_roundg (gk - 1)
        case measure => omega
        case rel =>
          obtain ⟨q0, hq0⟩ := HW.out
          exact ⟨_, _, o, HL2.out, rfl, by rw [HOo.out]; exact hiS_len _ _ _, Nat.le_trans (hiS_lenle _ _) hS, HHi.out.draw nq, by rw [HD.out]; exact HO.out.hi H2.out, by rw [HOo.out, cnt_hi HH.out]; exact HC.out, q0 + nq, by rw [hq0]; exact World.drewN_drewN _ _ _⟩
      | false =>
        have hle : ¬ d.toNat ≤ c.toNat := by unfold high at hh; exact fun h => of_decide_eq_false hh (UInt8.le_iff_toNat_le.2 h)
        have HH := Lib.hid hh
        clear hh
        have hsub : IntKind.i64.wrap ((i' : Int) - (o : Int)) = ((i' - o : Nat) : Int) := by rw [IntWalk.i64_in _ ⟨by omega, by omega⟩]; omega
        go_wp2_with fail
        refine (HLf.out).mono ?_
        rintro e w' ⟨rfl, rfl⟩
        go_wp2_with fail
        go_quiet (fail)
        go_wp2_with fail
        go_roundg (gk - 1)
        case measure => omega
        case rel =>
          obtain ⟨q0, hq0⟩ := HW.out
          exact ⟨_, _, i' - o, HL1.out, by first | rfl | (congr 1; omega), by rw [HOo.out]; exact loS_len _ _ hi, Nat.le_trans (loS_lenle _ _) hS, HLo.out.draw nq, by rw [HD.out]; exact HO.out.lo H2.out, by rw [HOo.out, cnt_lo HH.out _ _ hi]; exact HC.out, q0 + nq, by rw [hq0]; exact World.drewN_drewN _ _ _⟩
    · have hb := HN.out.lf h2
      obtain ⟨hc0, hc1, hc2, hc3⟩ := hb.cells
      have HLf := Lib.hid (leaf_yes g wr hc0)
      have hcn := leaf_cnt HO.out (by omega) c i' hi
      rw [HC.out] at hcn
      have HCn := Lib.hid hcn
      generalize L'.getD 0 0 = x at *
      clear hb hcn
      by_cases hx : c = x
      · subst hx
        have hcc : C = i' := by have := HCn.out; rwa [if_pos rfl] at this
        have HCc := Lib.hid hcc
        clear hcc
        go_wp2_with fail
        refine (HLf.out).mono ?_
        rintro e w' ⟨rfl, rfl⟩
        go_wp2_with fail
        go_ret
        obtain ⟨q0, hq0⟩ := HW.out
        exact ⟨by rw [HCc.out]; rfl, q0, hq0⟩
      · have hcc : C = 0 := by have := HCn.out; rwa [if_neg hx] at this
        have HCc := Lib.hid hcc
        have hnx : ((c.toNat : Int) == (x.toNat : Int)) = false := u8_ne hx
        have hnx2 : ((c.toNat : Int) != (x.toNat : Int)) = true := by simp [bne, hnx]
        clear hcc
        go_wp2_with fail
        refine (HLf.out).mono ?_
        rintro e w' ⟨rfl, rfl⟩
        go_wp2_with fail
        go_ret
        obtain ⟨q0, hq0⟩ := HW.out
        exact ⟨by rw [HCc.out]; rfl, q0, hq0⟩
set_option maxHeartbeats 4000000 in
set_option maxRecDepth 100000 in
theorem at_any (B : Nat) (L S : Bs) (v : Value) (x : UInt8) (i : Nat) (w : World) (hN : Node B w L S v) (hO : Over L S) (hi : S[i]? = some x) (hS : S.length ≤ 1000) :
    Calls Try.prog 88 #[v, .int .i64 i] w fun e w' => e = .returned (.int .u8 x.toNat) ∧ ∃ q, w' = w.drewN q := by
  have HN := Lib.hid hN
  have HO := Lib.hid hO
  have HI := Lib.hid hi
  clear hN hO hi
  go_enter Try.func88, Try.ntmps88
  go_wp2_with fail
  go_loopg [0, 1] (L.length) (fun gk vn vi wr => ∃ (L' S' : Bs) (i' : Nat), L'.length ≤ gk ∧ vi = .int .i64 i' ∧ S'.length ≤ 1000 ∧ Node B wr L' S' vn ∧ Over L' S' ∧ S'[i']? = some x ∧ ∃ q, wr = w.drewN q)
  case atStart => exact ⟨L, S, i, Nat.le_refl _, rfl, hS, HN.out, HO.out, HI.out, 0, rfl⟩
  case round =>
    clear HN HO HI hS
    obtain ⟨L', S', i', hgk, rfl, hS, hn, ho, hx, hw⟩ := hrel
    obtain ⟨g, rfl⟩ := hn.ptr
    obtain ⟨hi, hxe⟩ := List.getElem?_eq_some_iff.1 hx
    have HW := Lib.hid hw
    have HN := Lib.hid hn
    have HO := Lib.hid ho
    have HX := Lib.hid hxe
    clear hw hn ho hx hxe
    by_cases h2 : 2 ≤ L'.length
    · obtain ⟨p1, p2, vs, hb, hov, hlo, hhi⟩ := HN.out.lo h2
      obtain ⟨gv, cv, rfl, hcv, hixv⟩ := ones_ix hov
      obtain ⟨d, hd⟩ : ∃ d, d = spl L' := ⟨_, rfl⟩
      obtain ⟨m, hm⟩ : ∃ m, m = S'.length + 1 := ⟨_, rfl⟩
      obtain ⟨o, hoo⟩ : ∃ o, o = onesAt d S' i' := ⟨_, rfl⟩
      obtain ⟨o1, hoo1⟩ : ∃ o1, o1 = onesAt d S' (i' + 1) := ⟨_, rfl⟩
      rw [← hd] at hb hcv hlo hhi
      obtain ⟨hc0, hc1, hc2, hc3⟩ := hb.cells
      have hcvi := hcv i' (by omega)
      have hcvj := hcv (i' + 1) (by omega)
      have hixi := fun w => hixv i' w (by omega)
      have hixj := fun w => hixv (i' + 1) w (by omega)
      have ez : ((i' + 1 : Nat) : Int) = (i' : Int) + 1 := by omega
      rw [← hm] at hc3 hixi hixj
      rw [ez] at hixj
      rw [← hoo] at hcvi
      rw [← hoo1] at hcvj
      have hoi : o ≤ i' := by rw [hoo]; exact onesAt_le _ _ _
      have hos : o1 = o + (if high d x then 1 else 0) := by rw [hoo1, onesAt_succ hi, HX.out, hoo]
      have hm1 : i' + 1 < m := by omega
      have HLf := Lib.hid (leaf_no g p1 wr hc0)
      have HLo := Lib.hid hlo
      have HHi := Lib.hid hhi
      have HD := Lib.hid hd
      have HOo := Lib.hid hoo
      have H2 := Lib.hid h2
      have hhf := half_lt h2
      have hlen1 : (L'.take (half L'.length)).length ≤ gk - 1 := by rw [List.length_take]; omega
      have hlen2 : (L'.drop (half L'.length)).length ≤ gk - 1 := by rw [List.length_drop]; omega
      have HL1 := Lib.hid hlen1
      have HL2 := Lib.hid hlen2
      have hgk1 : 1 ≤ gk := by omega
      have hi1 : i' ≤ 1000 := by omega
      clear hb hov hlo hhi hcv hixv hd hm hoo hoo1 h2 hhf hlen1 hlen2 ez
      cases hh : high d x with
      | true =>
        rw [hh, if_pos rfl] at hos
        subst hos
        have HH := Lib.hid hh
        clear hh
        go_wp2_with fail
        refine (HLf.out).mono ?_
        rintro e w' ⟨rfl, rfl⟩
        go_wp2_with fail
        go_quiet (fail)
        go_wp2_with fail
        go_roundg (gk - 1)
        case measure => omega
        case rel =>
          obtain ⟨q0, hq0⟩ := HW.out
          exact ⟨_, _, o, HL2.out, rfl, Nat.le_trans (hiS_lenle _ _) hS, HHi.out.draw nq, by rw [HD.out]; exact HO.out.hi H2.out, by rw [HOo.out, get_hi hi (by rw [HX.out]; exact HH.out), HX.out], q0 + nq, by rw [hq0]; exact World.drewN_drewN _ _ _⟩
      | false =>
        rw [hh, if_neg (by simp), Nat.add_zero] at hos
        obtain rfl : o = o1 := hos.symm
        have HH := Lib.hid hh
        clear hh
        have hsub : IntKind.i64.wrap ((i' : Int) - (o : Int)) = ((i' - o : Nat) : Int) := by rw [IntWalk.i64_in _ ⟨by omega, by omega⟩]; omega
        go_wp2_with fail
        refine (HLf.out).mono ?_
        rintro e w' ⟨rfl, rfl⟩
        go_wp2_with fail
        go_quiet (fail)
        go_wp2_with fail
        go_roundg (gk - 1)
        case measure => omega
        case rel =>
          obtain ⟨q0, hq0⟩ := HW.out
          exact ⟨_, _, i' - o, HL1.out, by first | rfl | (congr 1; omega), Nat.le_trans (loS_lenle _ _) hS, HLo.out.draw nq, by rw [HD.out]; exact HO.out.lo H2.out, by rw [HOo.out, get_lo hi (by rw [HX.out]; exact HH.out), HX.out], q0 + nq, by rw [hq0]; exact World.drewN_drewN _ _ _⟩
    · have hb := HN.out.lf h2
      have hxl := over_leaf HO.out (by omega) x (by rw [← HX.out]; exact List.getElem_mem _)
      rw [← hxl] at hb
      obtain ⟨hc0, hc1, hc2, hc3⟩ := hb.cells
      have HLf := Lib.hid (leaf_yes g wr hc0)
      clear hb hxl
      go_wp2_with fail
      refine (HLf.out).mono ?_
      rintro e w' ⟨rfl, rfl⟩
      go_wp2_with fail
      go_ret
      exact ⟨rfl, HW.out⟩
#print axioms at_any
#print axioms rank_any
end Go.Proofs.Ytbnlkmblkokooaa

/- Contract of newNode. -/
import Derived.Test.YtbnlkmblkokooaaNod
import Derived.Deep.DeepCutAuto
namespace Go.Proofs.Ytbnlkmblkokooaa
open Go.RowKit
/-- what newNode returns -/
def NewPost (L S : Bs) (w : World) (e : Ending) (w' : World) : Prop := ∃ v, e = .returned v ∧ Node w.heap.size w' L S v ∧ Below w.heap.size w w'
theorem byts_ix {w : World} {v : Value} {l : Bs} (h : Byts w v l) : ∃ a b off cap, v = .slice a l.length cap ∧ (0 < l.length → a = some ⟨b, off, none⟩) ∧ (∀ i, i < l.length → b < w.heap.size) ∧
    (∀ i (hi : i < l.length), w.cell? ⟨b, off + i, none⟩ = some (.int .u8 l[i].toNat)) ∧
    ∀ (i : Nat) (w : World), i < l.length → Sem.run Try.prog (Instr.indexAt 53 (.slice a l.length cap) (.int .i64 i)) w = .ok (.pointer (some ⟨b, off + i, none⟩)) w := by
  obtain ⟨a, b, off, cap, hv, _, ha, hc⟩ := h.get
  have hix := run_ix (P := Try.prog) (t := 53) (a := a) (len := l.length) (cap := cap) (b := b) (off := off) (s := 1) Try.underlying53 (by intro w; kernel_rfl) ha
  simp only [Nat.mul_one] at hix
  exact ⟨a, b, off, cap, hv, ha, fun i hi => cell_lt (hc i hi), hc, hix⟩
theorem new_leaf0 (S : Bs) (sv lv : Value) (w : World) (hl : Byts w lv []) :
    Calls Try.prog 60 #[sv, lv] w (NewPost [] S w) := by
  obtain ⟨a, b, off, cap, rfl, _⟩ := hl.get
  have h1 := heap_alloc_new w (.cells #[.pointer none, .pointer none, .int .u8 0, .slice none 0 0] 86)
  have HN := Lib.hid (show Node w.heap.size (w.alloc (.cells #[.pointer none, .pointer none, .int .u8 0, .slice none 0 0] 86)) [] S (.pointer (some ⟨w.heap.size, 0, none⟩)) from .leaf (by simp) (Nat.le_refl _) h1)
  clear hl h1
  go_enter Try.func60, Try.ntmps60
  go_wp2_with fail
  go_ret
  exact ⟨_, rfl, HN.out, below_alloc _ _⟩
theorem new_leaf1 (S : Bs) (c : UInt8) (sv lv : Value) (w : World) (hl : Byts w lv [c]) :
    Calls Try.prog 60 #[sv, lv] w (NewPost [c] S w) := by
  obtain ⟨a, b, off, cap, rfl, ha, hb, hc, hix⟩ := byts_ix hl
  have hc0 : w.cell? ⟨b, off, none⟩ = some (.int .u8 c.toNat) := hc 0 (by simp)
  have hi0 : ∀ w, Sem.run Try.prog (Instr.indexAt 53 (.slice a 1 cap) (.int .i64 0)) w = .ok (.pointer (some ⟨b, off, none⟩)) w := fun w => hix 0 w (by simp)
  have h1 := heap_alloc_new w (.cells #[.pointer none, .pointer none, .int .u8 c.toNat, .slice none 0 0] 86)
  have HN := Lib.hid (show Node w.heap.size (w.alloc (.cells #[.pointer none, .pointer none, .int .u8 c.toNat, .slice none 0 0] 86)) [c] S (.pointer (some ⟨w.heap.size, 0, none⟩)) from .leaf (by simp) (Nat.le_refl _) h1)
  have hlen : [c].length = 1 := rfl
  rw [hlen]
  clear hl h1 ha hb hc hix hlen
  go_enter Try.func60, Try.ntmps60
  go_wp2_with fail
  go_ret
  exact ⟨_, rfl, HN.out, below_alloc _ _⟩
theorem byts_take {w : World} {b off k cap q : Nat} {L : Bs} (h : Byts w (.slice (some ⟨b, off, none⟩) k cap) L) (hq : q ≤ k) : Byts w (.slice (some ⟨b, off, none⟩) q q) (L.take q) := by
  obtain ⟨a', b', off', cap', hv, hle, ha, hc⟩ := h.get
  injection hv with hv hk _
  have hl : (L.take q).length = q := by rw [List.length_take]; omega
  refine ⟨by rw [bcells_len, Nat.mul_one], by rw [hl]; unfold maxLen; omega, some ⟨b, off, none⟩, b, off, q, by rw [hl], ⟨fun _ => rfl, by rw [hl]; exact Nat.le_refl _⟩, fun j hj => ?_⟩
  rw [bcells_len, hl] at hj
  have h0 := ha (by omega)
  rw [h0] at hv
  injection hv with hv
  injection hv with e1 e2 _
  have := hc j (by omega)
  rw [← e1, ← e2] at this
  rw [this]
  simp [Lib.byteCells]
theorem byts_drop {w : World} {b off k cap q : Nat} {L : Bs} (h : Byts w (.slice (some ⟨b, off, none⟩) k cap) L) (hk : k = L.length) (hq : q < k) : Byts w (.slice (some ⟨b, off + q, none⟩) (k - q) (k - q)) (L.drop q) := by
  obtain ⟨a', b', off', cap', hv, hle, ha, hc⟩ := h.get
  have hl : (L.drop q).length = k - q := by rw [List.length_drop]; omega
  refine ⟨by rw [bcells_len, Nat.mul_one], by rw [hl]; unfold maxLen; omega, some ⟨b, off + q, none⟩, b, off + q, k - q, by rw [hl], ⟨fun _ => rfl, by rw [hl]; exact Nat.le_refl _⟩, fun j hj => ?_⟩
  rw [bcells_len, hl] at hj
  have h0 := ha (by omega)
  rw [h0] at hv
  injection hv with hv _ _
  injection hv with hv
  injection hv with e1 e2 _
  have := hc (q + j) (by omega)
  rw [← e1, ← e2, ← Nat.add_assoc] at this
  rw [this]
  simp [Lib.byteCells]
set_option maxHeartbeats 8000000 in
set_option maxRecDepth 100000 in
theorem newNode_any : ∀ (m : Nat) (L S : Bs) (sv lv : Value) (w : World), L.length < m → L.length ≤ 1000 → S.length ≤ 1000 → Byts w sv S → Byts w lv L →
    Calls Try.prog 60 #[sv, lv] w (NewPost L S w) := by
  intro m
  induction m with
  | zero => intro _ _ _ _ _ h; exact absurd h (Nat.not_lt_zero _)
  | succ m ih =>
    intro L S sv lv w hm hL hS hs hl
    by_cases h2 : 2 ≤ L.length
    · obtain ⟨aS, bS, offs, caps, rfl, has, hbs, hcs, hixs⟩ := byts_ix hs
      obtain ⟨al, bl, offl, capl, rfl, hal, hbl, hcl, hixl⟩ := byts_ix hl
      obtain rfl := hal (by omega)
      have hcap : L.length ≤ capl := (Rd.cap hl).1
      obtain ⟨k, hk⟩ : ∃ k, k = L.length := ⟨_, rfl⟩
      rw [← hk] at hcap
      obtain ⟨N, hN⟩ : ∃ N, N = S.length := ⟨_, rfl⟩
      have hh := half_lt h2
      obtain ⟨q, hq⟩ : ∃ q, q = half L.length := ⟨_, rfl⟩
      rw [← hq, ← hk] at hh
      have hqz : ((k : Int) + 1) / 2 = (q : Int) := by unfold half at hq; omega
      have hqt : ((k : Int) + 1).tdiv 2 = (q : Int) := by rw [Int.tdiv_eq_ediv_of_nonneg (by omega)]; exact hqz
      have hcq : w.cell? ⟨bl, offl + q, none⟩ = some (.int .u8 (spl L).toNat) := by
        have := hcl q (by omega)
        have e : spl L = L[q]'(by omega) := by simp [spl, ← hq, List.getD, List.getElem?_eq_getElem (show q < L.length by omega)]
        rw [e]; exact this
      have hixq := fun w => hixl q w (by omega)
      have hk1 : ((k : Int) == 0) = false := by simp; omega
      have hk2 : ((k : Int) == 1) = false := by simp; omega
      have IH := Lib.hid ih
      have Hs := Lib.hid hs
      have Hl := Lib.hid hl
      have HN := Lib.hid hN
      have HK := Lib.hid hk
      have HQ := Lib.hid hq
      have Hcs := Lib.hid hcs
      have Hixs := Lib.hid hixs
      rw [← hN] at Hixs Hs
      rw [← hk] at hixq Hl
      have H2 := Lib.hid h2
      have hqc : q ≤ capl := by omega
      have hkq : ¬ k = q := by omega
      have hq1 := hh.1
      have hq2 := hh.2
      have hkm : k < m + 1 := by omega
      have hk3 : k ≤ 1000 := by omega
      have hN3 : N ≤ 1000 := by omega
      rw [← hN, ← hk]
      clear ih hs hl hcs hixs hcl hixl has hbs hbl hN hk hq hh h2 hm hL hS
      go_enter Try.func60, Try.ntmps60
      go_wp2_with fail
      obtain ⟨g, hg⟩ : ∃ g, g = w.heap.size + 1 := ⟨_, rfl⟩
      obtain ⟨d, hd⟩ : ∃ d, d = spl L := ⟨_, rfl⟩
      rw [← hd]
      rw [← hd] at hcq
      obtain ⟨wz, hwz⟩ : ∃ wz, wz = (w.alloc (.cells #[.int .i64 0] 3)).alloc (.cells #[.pointer none, .pointer none, .int .u8 d.toNat, .slice (some ⟨w.heap.size, 0, none⟩) 1 1] 86) := ⟨_, rfl⟩
      have HNB := Lib.hid (show NBlk wz g (.pointer none) (.pointer none) d (.slice (some ⟨w.heap.size, 0, none⟩) 1 1) from by
        rw [hwz, hg]
        have := heap_alloc_new (w.alloc (.cells #[.int .i64 0] 3)) (.cells #[.pointer none, .pointer none, .int .u8 d.toNat, .slice (some ⟨w.heap.size, 0, none⟩) 1 1] 86)
        rw [show (w.alloc (.cells #[.int .i64 0] 3)).heap.size = w.heap.size + 1 by simp] at this
        exact this)
      have HOv := Lib.hid (show wz.ownsRow w.heap.size 3 1 (.slice (some ⟨w.heap.size, 0, none⟩) 1 1) 1 ((onesRow d S 1).map (Value.int .i64)) from by
        rw [hwz]
        refine World.ownsRow.alloc ?_ _
        have := World.ownsRow_lit (e := 3) (base := w.heap.size) (size := 1) w #[.int .i64 0] 1 (Nat.le_refl _) (by unfold maxLen; omega) rfl
        simpa [onesRow, onesAt] using this)
      have HBz := Lib.hid (show Below w.heap.size w wz from by rw [hwz]; exact Below.tr (below_alloc _ _) (below_alloc _ _))
      have hgz := HNB.out.lt
      rw [← hg, ← hwz]
      have HG := Lib.hid hg
      have HD := Lib.hid hd
      clear hwz hg hd
      go_loopw [8, 9, 38] (fun vl vh vi wr => ∃ (i : Nat) (vs : Value), vi = .int .i64 i ∧ i ≤ N ∧ Below w.heap.size w wr ∧ NBlk wr g (.pointer none) (.pointer none) d vs ∧ wr.ownsRow w.heap.size 3 1 vs (i + 1) ((onesRow d S (i + 1)).map (Value.int .i64)) ∧
        OwnByts w.heap.size wr vl (loS d (S.take i)) ∧ OwnByts w.heap.size wr vh (hiS d (S.take i)) ∧ (∀ q, vl.ownBlock = some q → vh.ownBlock ≠ some q)) (fun _ _ vi _ => N - (intOf vi).toNat)
      case atStart => exact ⟨0, _, rfl, Nat.zero_le _, HBz.out, HNB.out, HOv.out, by simpa [loS] using ownByts_nil _ _, by simpa [hiS] using ownByts_nil _ _, fun q h => by simp [Value.ownBlock] at h⟩
      case round =>
        obtain ⟨i, vs, rfl, hiN, hbe, hnb, hov, hol, hoh, hdis⟩ := hrel
        have HBe := Lib.hid hbe
        have HNb := Lib.hid hnb
        have HOv2 := Lib.hid hov
        have HOl := Lib.hid hol
        have HOh := Lib.hid hoh
        have HDis := Lib.hid hdis
        obtain ⟨gv, cv, rfl⟩ : ∃ gv cv, vs = .slice (some ⟨gv, 0, none⟩) (i + 1) cv := by
          rcases hov.2 with ⟨_, h0⟩ | ⟨gv, cv, cur, hv, _⟩
          · omega
          · exact ⟨gv, cv, hv⟩
        obtain ⟨hn0, hn1, hn2, hn3⟩ := hnb.cells
        have hf3 := hnb.frozen 3
        obtain ⟨M, hM⟩ : ∃ M, M = i + 1 := ⟨_, rfl⟩
        have hcv := hov.cellAt i (by omega)
        rw [List.getElem?_map, onesRow_get _ _ (by omega), Option.map_some] at hcv
        have hixv := fun w => run_ix (P := Try.prog) (t := 23) (a := some ⟨gv, 0, none⟩) (len := i + 1) (cap := cv) (b := gv) (off := 0) (s := 1) Try.underlying23 (by intro w; kernel_rfl) (fun _ => rfl) i w (by omega)
        simp only [Nat.mul_one, Nat.zero_add] at hixv
        rw [← hM] at hn3 hixv
        have hMz : IntKind.i64.wrap ((M : Int) - 1) = (i : Int) := by rw [IntWalk.i64_in _ ⟨by omega, by omega⟩]; omega
        have hMz2 : (M : Int) - 1 = (i : Int) := by omega
        clear hbe hnb hov hol hoh hdis
        by_cases hlt : i < N
        · have hiSl : i < S.length := by rw [← HN.out]; exact hlt
          have hixs := fun w => Hixs.out i w hlt
          have hcs := Below.keep HBe.out (Hcs.out i hiSl)
          obtain ⟨o, ho⟩ : ∃ o, o = onesAt d S i := ⟨_, rfl⟩
          have hoi : o ≤ 1000 := by have := onesAt_le d S i; omega
          rw [← ho] at hcv
          obtain ⟨c, hc⟩ : ∃ c, c = S[i] := ⟨_, rfl⟩
          rw [← hc] at hcs
          have HO := Lib.hid ho
          have HC := Lib.hid hc
          have HM := Lib.hid hM
          clear ho hc hM
          cases hh : high d c with
          | true =>
            have hle : d.toNat ≤ c.toNat := by unfold high at hh; exact UInt8.le_iff_toNat_le.1 (of_decide_eq_true hh)
            have HH := Lib.hid hh
            clear hh
            have HL1 := Lib.hid (show hiS d (S.take (i + 1)) = hiS d (S.take i) ++ [c] by rw [hiS_succ hiSl, ← HC.out, HH.out]; rfl)
            have HL2 := Lib.hid (show loS d (S.take (i + 1)) = loS d (S.take i) by rw [loS_succ hiSl, ← HC.out, HH.out]; simp)
            have HL3 := Lib.hid (show onesAt d S (i + 1) = o + 1 by rw [onesAt_succ hiSl, ← HC.out, HH.out, ← HO.out]; rfl)
            have hln : (hiS d (S.take i)).length ≤ 1000000 := by have := hiS_lenle d (S.take i); rw [List.length_take] at this; omega
            have Hln := Lib.hid hln
            clear hln
            go_wp2_with fail
            go_quiet (fail)
            obtain ⟨w5, hw5⟩ : ∃ w5, w5 = wr.drewN nq := ⟨_, rfl⟩
            have HBe5 := Lib.hid (show Below w.heap.size w w5 from by rw [hw5]; exact bdrewN HBe.out nq)
            have HNb5 := Lib.hid (show NBlk w5 g (.pointer none) (.pointer none) d (.slice (some ⟨gv, 0, none⟩) M cv) from by rw [hw5, HM.out]; exact HNb.out)
            have HOv5 := Lib.hid (show w5.ownsRow w.heap.size 3 1 (.slice (some ⟨gv, 0, none⟩) M cv) M ((onesRow d S M).map (Value.int .i64)) from by rw [hw5, HM.out]; exact HOv2.out)
            have HOl5 := Lib.hid (show OwnByts w.heap.size w5 u8 (loS d (S.take i)) from by rw [hw5]; exact HOl.out)
            have HOh5 := Lib.hid (show OwnByts w.heap.size w5 u9 (hiS d (S.take i)) from by rw [hw5]; exact HOh.out)
            rw [← hw5]
            obtain ⟨-, -, hm2, -⟩ := HNb5.out.cells
            clear hn0 hn1 hn2 hn3 hf3 hcv hcs hixv hixs hw5
            go_wp2_with (at_builtin; refine append_place rfl (.tmp 60) (.tmp 62) 53 rfl elemBytes rfl (World.ownsRow.alloc HOh5.out _) rfl (y := .int .u8 c.toNat) ?c1 rfl ?c2 ?c3 ?_)
            case c1 => rw [cell_new]; rfl
            case c2 => exact Hln.out
            case c3 => have := HBe5.out.size; simp; omega
            intro v7 w7 hown7 hb7 hgr7 hpl7
            have HBe7 := Lib.hid (show Below w.heap.size w w7 from (HBe5.out.alloc HBe5.out.size _).trans hb7)
            have HNb7 := Lib.hid (NBlk.grown (HNb5.out.alloc _) hgr7 (NBlk.not_row HNb5.out HOh5.out (by decide)))
            have HOv7 := Lib.hid (own_kept (World.ownsRow.alloc HOv5.out _) hgr7 (own_types HOv5.out HOh5.out (by decide)))
            have HOo7 := Lib.hid (show OwnByts w.heap.size w7 u8 (loS d (S.take i)) from own_kept (World.ownsRow.alloc HOl5.out _) hgr7 HDis.out)
            have HOx7 := Lib.hid (show OwnByts w.heap.size w7 v7 (hiS d (S.take i) ++ [c]) from OwnByts.snoc hown7)
            have HDis7 := Lib.hid (show ∀ q, u8.ownBlock = some q → v7.ownBlock ≠ some q from fun q h1 h2 => by
              rcases hpl7 with h3 | h3
              · exact HDis.out q h1 (h3.symm.trans h2)
              · have h4 := (HOl5.out.lt q h1).2
                rw [h2] at h3
                injection h3 with h3
                try simp at h3
                omega)
            obtain ⟨-, -, -, hm3⟩ := HNb7.out.cells
            clear hown7 hb7 hgr7 hpl7 hm2 HBe5 HNb5 HOv5 HOl5 HOh5
            have hM1 : M ≤ 1001 := by have := HM.out; omega
            go_wp2_with (at_builtin; refine append_place rfl (.tmp 74) (.tmp 76) 23 rfl elemInts rfl (World.ownsRow.alloc HOv7.out _) rfl (y := .int .i64 (o + 1 : Nat)) ?c1 rfl ?c2 ?c3 ?_)
            case c1 => rw [cell_new]; first | rfl | (simp)
            case c2 => omega
            case c3 => have := HBe7.out.size; simp; omega
            intro v8 w8 hown8 hb8 hgr8 _
            obtain ⟨g8, c8, rfl⟩ : ∃ g8 c8, v8 = .slice (some ⟨g8, 0, none⟩) (M + 1) c8 := by
              rcases hown8.2 with ⟨_, h0⟩ | ⟨g8, c8, cur, hv, _⟩
              · omega
              · exact ⟨g8, c8, hv⟩
            have HBe8 := Lib.hid (show Below w.heap.size w w8 from (HBe7.out.alloc HBe7.out.size _).trans hb8)
            have HNb8 := Lib.hid (NBlk.grown (HNb7.out.alloc _) hgr8 (NBlk.not_row HNb7.out HOv7.out (by decide)))
            have HOo8 := Lib.hid (own_set (g := g) (i := 3) (x := .slice (some ⟨g8, 0, none⟩) (M + 1) c8) (own_kept (World.ownsRow.alloc HOo7.out _) hgr8 (own_types HOo7.out HOv7.out (by decide))) (NBlk.not_row HNb7.out HOo7.out (by decide)))
            have HOx8 := Lib.hid (own_set (g := g) (i := 3) (x := .slice (some ⟨g8, 0, none⟩) (M + 1) c8) (own_kept (World.ownsRow.alloc HOx7.out _) hgr8 (own_types HOx7.out HOv7.out (by decide))) (NBlk.not_row HNb7.out HOx7.out (by decide)))
            have HOv8 := Lib.hid (own_set (g := g) (i := 3) (x := .slice (some ⟨g8, 0, none⟩) (M + 1) c8) hown8 (NBlk.not_row HNb8.out hown8 (by decide)))
            obtain ⟨-, -, -, hk3⟩ := HNb8.out.cells
            have hfk := HNb8.out.frozen 3
            clear hown8 hb8 hgr8 hm3
            go_wp2_with fail
            go_roundw
            case rel =>
              refine ⟨i + 1, .slice (some ⟨g8, 0, none⟩) (M + 1) c8, by go_num, by omega, HBe8.out.setCell (p := ⟨g, 3, none⟩) (by have := HG.out; simp; omega) _, HNb8.out.set3 _, ?_, ?_⟩
              · have := HOv8.out
                rw [onesRow_succ, HL3.out, List.map_append, ← HM.out]
                exact this
              · rw [HL1.out, HL2.out]
                exact ⟨HOo8.out, HOx8.out, HDis7.out⟩
            case measure => simp [intOf] <;> omega
          | false =>
            have hle : ¬ d.toNat ≤ c.toNat := by unfold high at hh; exact fun h => of_decide_eq_false hh (UInt8.le_iff_toNat_le.2 h)
            have HH := Lib.hid hh
            clear hh
            have HL1 := Lib.hid (show loS d (S.take (i + 1)) = loS d (S.take i) ++ [c] by rw [loS_succ hiSl, ← HC.out, HH.out]; rfl)
            have HL2 := Lib.hid (show hiS d (S.take (i + 1)) = hiS d (S.take i) by rw [hiS_succ hiSl, ← HC.out, HH.out]; simp)
            have HL3 := Lib.hid (show onesAt d S (i + 1) = o by rw [onesAt_succ hiSl, ← HC.out, HH.out, ← HO.out]; rfl)
            have hln : (loS d (S.take i)).length ≤ 1000000 := by have := loS_lenle d (S.take i); rw [List.length_take] at this; omega
            have Hln := Lib.hid hln
            clear hln
            go_wp2_with fail
            go_quiet (fail)
            obtain ⟨w5, hw5⟩ : ∃ w5, w5 = wr.drewN nq := ⟨_, rfl⟩
            have HBe5 := Lib.hid (show Below w.heap.size w w5 from by rw [hw5]; exact bdrewN HBe.out nq)
            have HNb5 := Lib.hid (show NBlk w5 g (.pointer none) (.pointer none) d (.slice (some ⟨gv, 0, none⟩) M cv) from by rw [hw5, HM.out]; exact HNb.out)
            have HOv5 := Lib.hid (show w5.ownsRow w.heap.size 3 1 (.slice (some ⟨gv, 0, none⟩) M cv) M ((onesRow d S M).map (Value.int .i64)) from by rw [hw5, HM.out]; exact HOv2.out)
            have HOl5 := Lib.hid (show OwnByts w.heap.size w5 u8 (loS d (S.take i)) from by rw [hw5]; exact HOl.out)
            have HOh5 := Lib.hid (show OwnByts w.heap.size w5 u9 (hiS d (S.take i)) from by rw [hw5]; exact HOh.out)
            rw [← hw5]
            obtain ⟨-, -, hm2, -⟩ := HNb5.out.cells
            clear hn0 hn1 hn2 hn3 hf3 hcv hcs hixv hixs hw5
            go_wp2_with (at_builtin; refine append_place rfl (.tmp 66) (.tmp 68) 53 rfl elemBytes rfl (World.ownsRow.alloc HOl5.out _) rfl (y := .int .u8 c.toNat) ?c1 rfl ?c2 ?c3 ?_)
            case c1 => rw [cell_new]; rfl
            case c2 => exact Hln.out
            case c3 => have := HBe5.out.size; simp; omega
            intro v7 w7 hown7 hb7 hgr7 hpl7
            have HBe7 := Lib.hid (show Below w.heap.size w w7 from (HBe5.out.alloc HBe5.out.size _).trans hb7)
            have HNb7 := Lib.hid (NBlk.grown (HNb5.out.alloc _) hgr7 (NBlk.not_row HNb5.out HOl5.out (by decide)))
            have HOv7 := Lib.hid (own_kept (World.ownsRow.alloc HOv5.out _) hgr7 (own_types HOv5.out HOl5.out (by decide)))
            have HOo7 := Lib.hid (show OwnByts w.heap.size w7 u9 (hiS d (S.take i)) from own_kept (World.ownsRow.alloc HOh5.out _) hgr7 (fun q h1 h2 => HDis.out q h2 h1))
            have HOx7 := Lib.hid (show OwnByts w.heap.size w7 v7 (loS d (S.take i) ++ [c]) from OwnByts.snoc hown7)
            have HDis7 := Lib.hid (show ∀ q, v7.ownBlock = some q → u9.ownBlock ≠ some q from fun q h1 h2 => by
              rcases hpl7 with h3 | h3
              · exact HDis.out q (h3.symm.trans h1) h2
              · have h4 := (HOh5.out.lt q h2).2
                rw [h1] at h3
                injection h3 with h3
                try simp at h3
                omega)
            obtain ⟨-, -, -, hm3⟩ := HNb7.out.cells
            clear hown7 hb7 hgr7 hpl7 hm2 HBe5 HNb5 HOv5 HOl5 HOh5
            have hM1 : M ≤ 1001 := by have := HM.out; omega
            go_wp2_with (at_builtin; refine append_place rfl (.tmp 74) (.tmp 76) 23 rfl elemInts rfl (World.ownsRow.alloc HOv7.out _) rfl (y := .int .i64 (o : Nat)) ?c1 rfl ?c2 ?c3 ?_)
            case c1 => rw [cell_new]; rfl
            case c2 => omega
            case c3 => have := HBe7.out.size; simp; omega
            intro v8 w8 hown8 hb8 hgr8 _
            obtain ⟨g8, c8, rfl⟩ : ∃ g8 c8, v8 = .slice (some ⟨g8, 0, none⟩) (M + 1) c8 := by
              rcases hown8.2 with ⟨_, h0⟩ | ⟨g8, c8, cur, hv, _⟩
              · omega
              · exact ⟨g8, c8, hv⟩
            have HBe8 := Lib.hid (show Below w.heap.size w w8 from (HBe7.out.alloc HBe7.out.size _).trans hb8)
            have HNb8 := Lib.hid (NBlk.grown (HNb7.out.alloc _) hgr8 (NBlk.not_row HNb7.out HOv7.out (by decide)))
            have HOo8 := Lib.hid (own_set (g := g) (i := 3) (x := .slice (some ⟨g8, 0, none⟩) (M + 1) c8) (own_kept (World.ownsRow.alloc HOo7.out _) hgr8 (own_types HOo7.out HOv7.out (by decide))) (NBlk.not_row HNb7.out HOo7.out (by decide)))
            have HOx8 := Lib.hid (own_set (g := g) (i := 3) (x := .slice (some ⟨g8, 0, none⟩) (M + 1) c8) (own_kept (World.ownsRow.alloc HOx7.out _) hgr8 (own_types HOx7.out HOv7.out (by decide))) (NBlk.not_row HNb7.out HOx7.out (by decide)))
            have HOv8 := Lib.hid (own_set (g := g) (i := 3) (x := .slice (some ⟨g8, 0, none⟩) (M + 1) c8) hown8 (NBlk.not_row HNb8.out hown8 (by decide)))
            obtain ⟨-, -, -, hk3⟩ := HNb8.out.cells
            have hfk := HNb8.out.frozen 3
            clear hown8 hb8 hgr8 hm3
            go_wp2_with fail
            go_roundw
            case rel =>
              refine ⟨i + 1, .slice (some ⟨g8, 0, none⟩) (M + 1) c8, by go_num, by omega, HBe8.out.setCell (p := ⟨g, 3, none⟩) (by have := HG.out; simp; omega) _, HNb8.out.set3 _, ?_, ?_⟩
              · have := HOv8.out
                rw [onesRow_succ, HL3.out, List.map_append, ← HM.out]
                exact this
              · rw [HL1.out, HL2.out]
                exact ⟨HOx8.out, HOo8.out, HDis7.out⟩
            case measure => simp [intOf] <;> omega
        · obtain rfl : i = N := by omega
          have htk : S.take i = S := List.take_of_length_le (by rw [← HN.out]; exact Nat.le_refl _)
          have HTk := Lib.hid htk
          have HM := Lib.hid hM
          clear hM htk
          have hq0 := HQ.out
          have hk0 := HK.out
          have HB1 := Lib.hid (Byts.keep Hl.out HBe.out)
          have Hlo := Lib.hid (show Byts wr u8 (loS d S) from by have := HOl.out.byts; rwa [HTk.out] at this)
          have Hhi := Lib.hid (show Byts wr u9 (hiS d S) from by have := HOh.out.byts; rwa [HTk.out] at this)
          have C1 := Lib.hid (IH.out (L.take q) (loS d S) u8 (.slice (some ⟨bl, offl, none⟩) q q) wr (by rw [List.length_take]; omega) (by rw [List.length_take]; omega) (by have := loS_lenle d S; have := HN.out; omega) Hlo.out (byts_take HB1.out (by omega)))
          clear hq0 hk0
          have HgB : g < wr.heap.size := HNb.out.lt
          clear hn0 hn1 hn2 hf3 hn3 hcv hixv
          go_wp2_with fail
          refine C1.out.mono ?_
          rintro e w1 ⟨v1, rfl, hn1, hb1⟩
          have HB2 := Lib.hid (Below.tr HBe.out hb1)
          have HN1 := Lib.hid hn1
          have HNb1 := Lib.hid (HNb.out.keep hb1)
          have HOv1 := Lib.hid (owns_keep HOv2.out hb1)
          have HOh1 := Lib.hid (owns_keep HOh.out hb1)
          have HW1 := Lib.hid hb1
          obtain ⟨p1, rfl⟩ := hn1.ptr
          obtain ⟨hx0, -, -, -⟩ := HNb1.out.cells
          have hfx0 := HNb1.out.frozen 0
          clear hn1 hb1
          go_wp2_with fail
          obtain ⟨w2, hw2⟩ : ∃ w2, w2 = w1.setCell ⟨g, 0, none⟩ (.pointer (some ⟨p1, 0, none⟩)) := ⟨_, rfl⟩
          have HNb2 := Lib.hid (show NBlk w2 g (.pointer (some ⟨p1, 0, none⟩)) (.pointer none) d (.slice (some ⟨gv, 0, none⟩) (i + 1) cv) from by rw [hw2]; exact HNb1.out.set0 _)
          have HOv3 := Lib.hid (show w2.ownsRow w.heap.size 3 1 (.slice (some ⟨gv, 0, none⟩) (i + 1) cv) (i + 1) ((onesRow d S (i + 1)).map (Value.int .i64)) from by rw [hw2]; exact own_set HOv1.out (NBlk.not_row HNb1.out HOv1.out (by decide)))
          have HOh3 := Lib.hid (show OwnByts w.heap.size w2 u9 (hiS d (S.take i)) from by rw [hw2]; exact own_set HOh1.out (NBlk.not_row HNb1.out HOh1.out (by decide)))
          have HN2 := Lib.hid (show Node wr.heap.size w2 (L.take q) (loS d S) (.pointer (some ⟨p1, 0, none⟩)) from by rw [hw2]; exact HN1.out.from fun x hx _ => Below.heap_setCell _ _ _ _ (by simp; omega))
          have HB3 := Lib.hid (show Below w.heap.size w w2 from by rw [hw2]; exact HB2.out.setCell (p := ⟨g, 0, none⟩) (by have := HG.out; simp; omega) _)
          have hsz2 : wr.heap.size ≤ w2.heap.size := by rw [hw2]; have := HW1.out.size; simpa [World.setCell] using this
          rw [← hw2]
          clear hx0 hfx0 hw2
          have C2 := Lib.hid (IH.out (L.drop q) (hiS d S) u9 (.slice (some ⟨bl, offl + q, none⟩) (k - q) (k - q)) w2 (by have := HK.out; rw [List.length_drop]; omega) (by have := HK.out; rw [List.length_drop]; omega) (by have := hiS_lenle d S; have := HN.out; omega) (by have := HOh3.out.byts; rwa [HTk.out] at this) (byts_drop (Byts.keep Hl.out HB3.out) HK.out (by omega)))
          go_wp2_with fail
          refine C2.out.mono ?_
          rintro e w3 ⟨v3, rfl, hn3, hb3⟩
          have HB4 := Lib.hid (Below.tr HB3.out hb3)
          have HN3 := Lib.hid hn3
          have HN4 := Lib.hid (HN2.out.keep hb3)
          have HNb3 := Lib.hid (HNb2.out.keep hb3)
          have HOv4 := Lib.hid (owns_keep HOv3.out hb3)
          obtain ⟨p3, rfl⟩ := hn3.ptr
          obtain ⟨-, hx1, -, -⟩ := HNb3.out.cells
          have hfx1 := HNb3.out.frozen 1
          clear hn3 hb3
          go_wp2_with fail
          go_ret
          have hgw : w.heap.size ≤ g := by have := HG.out; omega
          have hlS : i = S.length := HN.out
          refine ⟨_, rfl, .node H2.out hgw (lo := .pointer (some ⟨p1, 0, none⟩)) (hi := .pointer (some ⟨p3, 0, none⟩)) (vs := .slice (some ⟨gv, 0, none⟩) (i + 1) cv) ?_ ?_ ?_ ?_, HB4.out.setCell (p := ⟨g, 1, none⟩) hgw _⟩
          · rw [← HD.out]; exact HNb3.out.set1 _
          · rw [← HD.out, ← hlS]
            have := own_set (g := g) (i := 1) (x := .pointer (some ⟨p3, 0, none⟩)) HOv4.out (NBlk.not_row HNb3.out HOv4.out (by decide))
            unfold OwnInts
            rw [onesRow_len]
            exact this
          · rw [← HD.out, ← HQ.out]
            exact (HN4.out.from fun x hx _ => Below.heap_setCell _ _ _ _ (by simp; omega)).base (by have := HBe.out.size; omega)
          · rw [← HD.out, ← HQ.out]
            exact (HN3.out.from fun x hx _ => Below.heap_setCell _ _ _ _ (by simp; omega)).base (by have := HBe.out.size; omega)
    · match L, h2 with
      | [], _ => exact new_leaf0 S sv lv w hl
      | [c], _ => exact new_leaf1 S c sv lv w hl
      | _ :: _ :: _, h => exact absurd (by simp) h
#print axioms newNode_any
#print axioms new_leaf1
end Go.Proofs.Ytbnlkmblkokooaa

/- The contract of the reference's Back. -/
import Derived.Test.YtbnlkmblkokooaaBkw
import Derived.Test.YtbnlkmblkokooaaMov
import Derived.Test.YtbnlkmblkokooaaSrc
import Derived.Laws.RangeString
import Derived.Deep.LoopGhost
namespace Go.Proofs.Ytbnlkmblkokooaa
open Go.RowKit
/-- where a range over a string stands -/
def IterB (w : World) (g : Nat) (s : ByteArray) (pos : Nat) : Prop := w.heap[g]? = some (.stringIter s pos)
def iterTo (w : World) (g : Nat) (s : ByteArray) (pos : Nat) : World := { w with heap := w.heap.setIfInBounds g (.stringIter s pos) }
theorem next_at {P : Program} {w : World} {g : Nat} {s : ByteArray} {pos : Nat} (h : IterB w g s pos) (hp : pos < s.size) (ha : (s[pos]'hp).toNat < 128) (ty : TypeId) :
    (Instr.next (.pointer (some ⟨g, 0, none⟩)) true ty).run P w = .ok (.tuple #[.bool true, .int .i64 pos, .int .i32 (s[pos]'hp).toNat]) (iterTo w g s (pos + 1)) := by
  unfold IterB at h
  simp only [Instr.next, getObj, setObj, Sem.run_bind, Sem.run, h, Result.andThen, hp, if_true, decode_ascii s pos hp ha]
  simp [goInt, iterTo]
theorem next_end {P : Program} {w : World} {g : Nat} {s : ByteArray} {pos : Nat} (h : IterB w g s pos) (hp : ¬ pos < s.size) (ty : TypeId) :
    (Instr.next (.pointer (some ⟨g, 0, none⟩)) true ty).run P w = .ok (.tuple #[.bool false]) w := by
  unfold IterB at h
  simp [Instr.next, getObj, Sem.run, h, hp]
theorem iterTo_self {w : World} {g : Nat} {s : ByteArray} {p : Nat} (hg : g < w.heap.size) : IterB (iterTo w g s p) g s p := by
  unfold IterB iterTo
  simp [hg]
theorem iterTo_other {w : World} {g q : Nat} {s : ByteArray} {p : Nat} (h : q ≠ g) : (iterTo w g s p).heap[q]? = w.heap[q]? := by
  unfold iterTo
  have : g ≠ q := fun e => h e.symm
  simp [this]
theorem iterTo_below {w0 w : World} {g B : Nat} {s : ByteArray} {p : Nat} (h : Below B w0 w) (hg : B ≤ g) : Below B w0 (iterTo w g s p) :=
  ⟨h.os, h.tape, h.output, by unfold iterTo; simpa using h.size, fun q hq => by rw [iterTo_other (by omega)]; exact h.block q hq⟩
theorem IterB.keep {w w' : World} {g p : Nat} {s : ByteArray} (h : IterB w g s p) (hb : Below (g + 1) w w') : IterB w' g s p := (hb.block g (Nat.lt_succ_self _)).trans h
#print axioms next_at
theorem own_blk {w w' : World} {base : Nat} {e : TypeId} {size n : Nat} {v : Value} {xs : List Value} (h : w.ownsRow base e size v n xs) (hk : ∀ g, v.ownBlock = some g → w'.heap[g]? = w.heap[g]?) : w'.ownsRow base e size v n xs := by
  refine ⟨h.1, ?_⟩
  rcases h.2 with h0 | ⟨g, cap, cur, rfl, hb, hg, rest⟩
  · exact .inl h0
  · exact .inr ⟨g, cap, cur, rfl, hb, (hk g rfl).trans hg, rest⟩
theorem byts_one (l : Bs) : ∀ u ∈ Lib.byteCells l, u.oneCell' = true := by
  intro u hu
  obtain ⟨c, _, rfl⟩ := List.mem_map.1 hu
  rfl
theorem append_srcL {P : Program} {ops : Array Oper} {rest : List Oper} {o : Oper} {a : Act} {Q : Exit → Act → World → Prop} {w : World} (hgd : o.guard = none) (s x : Operand) (t : TypeId)
    (ho : o.op = .call { callee := .builtin .append, args := #[s, x], argTypes := #[t, t] }) {e : TypeId} {size bytes : Nat} (he : Elem P t e size bytes)
    {base n : Nat} {v : Value} {xs : List Value} (hs : a.eval s = v) (hown : w.ownsRow base e size v n xs)
    {u : Value} {m : Nat} {news : List Value} (hx : a.eval x = u) (hu : Src w u size m news) (h1 : ∀ u ∈ news, u.oneCell' = true)
    (hn : n + m ≤ 100000000000) (hbase : base ≤ w.heap.size)
    (h : ∀ v' w', w'.ownsRow base e size v' (n + m) (xs ++ news) → Below base w w' → w.grownBy w' v.ownBlock → wpList P ops Q rest (a.put o.dst v') w') : wpList P ops Q (o :: rest) a w :=
  wpList_plain hgd fun _ hK => wp_append_src s x t ho he hs hown hx hu h1 hn hbase fun v' w' h5 h6 h7 => hK _ _ (h v' w' h5 h6 h7)
/-- the loop's state -/
structure BrSt (l : Bs) (at' j : Nat) (OL : Bs) : Prop where
  at_lt : l.length = 0 ∨ at' < l.length
  len : OL.length = j
  is : ∀ T, IsBk l T → j ≤ T.length ∧ saAt T at' = T.length - j ∧ at' ≤ T.length ∧ OL = T.drop (T.length - j)
theorem brSt_start (l : Bs) : BrSt l 0 0 [] where
  at_lt := by omega
  len := rfl
  is := fun T hT => ⟨Nat.zero_le _, by rw [saAt_zero]; rfl, Nat.zero_le _, by rw [Nat.sub_zero, List.drop_length]⟩
theorem BrSt.tc {l T : Bs} {at' j : Nat} {OL : Bs} (h : BrSt l at' j OL) (ha : at' < l.length) (hT : IsBk l T) : tc T at' = l[at'] := by
  obtain ⟨_, _, h2, _⟩ := h.is T hT
  rw [← tr_getD h2, hT.2, List.getD_eq_getElem?_getD, List.getElem?_eq_getElem ha]; rfl
/-- at a byte 10 all is read -/
theorem BrSt.stop {l : Bs} {at' j : Nat} {OL : Bs} (h : BrSt l at' j OL) (ha : at' < l.length) (hc : l[at'] = 10) : ∀ T, IsBk l T → OL = T := fun T hT => by
  obtain ⟨h1, h2, h3, h4⟩ := h.is T hT
  have := (tc_end hT.gt).1 ((h.tc ha hT).trans hc)
  rw [h4, show T.length - j = 0 by omega, List.drop_zero]
theorem BrSt.nz {l T : Bs} {at' j : Nat} {OL : Bs} (h : BrSt l at' j OL) (ha : at' < l.length) (hc : l[at'] ≠ 10) (hT : IsBk l T) : saAt T at' ≠ 0 := fun e => hc ((h.tc ha hT).symm.trans ((tc_end hT.gt).2 e))
theorem BrSt.fit {l T : Bs} {at' j : Nat} {OL : Bs} (h : BrSt l at' j OL) (ha : at' < l.length) (hc : l[at'] ≠ 10) (hT : IsBk l T) : pr l at' < l.length := by
  obtain ⟨_, _, h3, _⟩ := h.is T hT
  have := (step_pr hT.gt h3 (h.nz ha hc hT)).2
  rw [hT.2] at this
  have := hT.len
  omega
theorem BrSt.step {l : Bs} {at' j : Nat} {OL : Bs} (h : BrSt l at' j OL) (ha : at' < l.length) (hc : l[at'] ≠ 10) (hp : pr l at' < l.length) : BrSt l (pr l at') (j + 1) (l[at'] :: OL) where
  at_lt := .inr hp
  len := by rw [List.length_cons, h.len]
  is := fun T hT => by
    obtain ⟨h1, h2, h3, h4⟩ := h.is T hT
    have hnz := h.nz ha hc hT
    have hst := step_pr hT.gt h3 hnz
    rw [hT.2, h2] at hst
    have hq : T.length - (j + 1) < T.length := by omega
    refine ⟨by omega, by omega, hst.2, ?_⟩
    rw [List.drop_eq_getElem_cons hq, show T.length - (j + 1) + 1 = T.length - j by omega, ← h4, ← h.tc ha hT, tc_at (m := T.length - (j + 1)) (by omega) hq]
/-- when the string is at its end, none is left -/
theorem BrSt.over {l : Bs} {at' j : Nat} {OL : Bs} (h : BrSt l at' j OL) (hj : l.length ≤ j) : ¬ ∃ T, IsBk l T := fun ⟨T, hT⟩ => by
  obtain ⟨h1, _⟩ := h.is T hT
  have := hT.len
  omega
#print axioms BrSt.step
theorem pr_succ (l : Bs) (at' k : Nat) : (List.range (k + 1)).countP (fun x => l.getD x 0 != 10 && bf l at' x) = (List.range k).countP (fun x => l.getD x 0 != 10 && bf l at' x) + (if (l.getD k 0 != 10 && bf l at' k) = true then 1 else 0) := by
  rw [List.range_succ, List.countP_append, List.countP_singleton]
set_option maxRecDepth 100000 in
theorem backR_bad {s : ByteArray} (hs : s.size ≤ 1000) (h : ¬ Txt (bs s)) (w : World) :
    Calls Try.prog 28 #[.string s] w fun e w' => e = .returned (.tuple #[.string ⟨#[]⟩, .int .i64 2]) ∧ w = w' := by
  have H := Lib.hid (moved_b s hs false (decide_eq_false h))
  clear h hs
  go_enter Try.func28, Try.ntmps28
  go_wp2_with fail
  refine (H.out _).mono ?_
  rintro e w1 ⟨rfl, hw⟩
  subst hw
  go_wp2_with fail
  go_ret2
  exact ⟨rfl, rfl⟩
#print axioms backR_bad
set_option maxRecDepth 100000 in
set_option maxHeartbeats 8000000 in
theorem backR_any {s : ByteArray} (hT : Txt (bs s)) (w : World) :
    Calls Try.prog 28 #[.string s] w (BckPost (bs s) w) := by
  obtain ⟨l, hl⟩ : ∃ l : List UInt8, l = bs s := ⟨_, rfl⟩
  obtain ⟨n, hn⟩ : ∃ n, n = s.size := ⟨_, rfl⟩
  have hs : s.size ≤ 201 := by have := hT.1; rwa [bs_len] at this
  have HM := Lib.hid (moved_b s (by omega) true (decide_eq_true hT))
  have HLN := Lib.hid (show l.length = n by rw [hl, hn]; exact bs_len s)
  have HGet := Lib.hid (show ∀ i (hi : i < l.length) (hs : i < s.size), s[i] = l[i] from fun i hi hs => by subst hl; exact bs_get hs)
  have HAsc := Lib.hid (show ∀ i (hs : i < s.size), s[i].toNat < 128 from fun i hi => by
    have h1 : i < (bs s).length := by rw [bs_len]; exact hi
    have h2 := hT.2 _ (List.getElem_mem h1)
    rw [← bs_get hi] at h2
    have := (mayB_iff _).1 h2
    omega)
  unfold BckPost
  rw [← hl] at hT ⊢
  have HT := Lib.hid hT
  have HSl := Lib.hid (show ∀ Y : ByteArray, (Y.toList == s.toList) = decide (bs Y = l) from fun Y => by
    rw [bs_toList, bs_toList, hl, Bool.eq_iff_iff, beq_iff_eq, decide_eq_true_iff])
  have hn1 : n ≤ 201 := by omega
  have hsn : (s.size : Int) = (n : Int) := by omega
  have HN := Lib.hid hn
  clear hT hl hs hn
  go_enter Try.func28, Try.ntmps28
  go_wp2_with fail
  refine (HM.out _).mono ?_
  rintro e w1 ⟨rfl, hw⟩
  subst hw
  go_wp2_with fail
  obtain ⟨g, hg⟩ : ∃ g, g = w.heap.size := ⟨_, rfl⟩
  have hit : IterB (w.iter s 0) g s 0 := by rw [hg]; exact World.iter_heap w s 0
  have hB0 : Below g w (w.iter s 0) := by rw [hg]; exact below_alloc w _
  have hgs : g < (w.iter s 0).heap.size := by rw [hg]; show w.heap.size < (w.heap.push _).size; simp
  rw [← hg]
  have HIt := Lib.hid hit
  have HB0 := Lib.hid hB0
  have Hgs := Lib.hid hgs
  have Hg := Lib.hid hg
  generalize w.iter s 0 = w2 at *
  clear hit hB0 hgs hg
  go_loopg [4, 5] (n + 1) (fun gk vo va wr => ∃ (at' j : Nat) (OL : Bs), j + gk = n + 1 ∧ va = .int .i64 at' ∧ j ≤ n ∧ Below g w wr ∧ g < wr.heap.size ∧ IterB wr g s j ∧ OwnByts (g + 1) wr vo OL ∧ BrSt l at' j OL)
  case atStart => exact ⟨0, 0, [], by omega, rfl, Nat.zero_le _, HB0.out, Hgs.out, HIt.out, ownByts_nil _ _, brSt_start _⟩
  case round =>
    obtain ⟨at', j, OL, hjk, rfl, hj, hbe, hgr, hit, hob, hst⟩ := hrel
    have HBe := Lib.hid hbe
    have Hgr := Lib.hid hgr
    have HIt2 := Lib.hid hit
    have HOb := Lib.hid hob
    have HSt := Lib.hid hst
    have hjk2 := hjk
    clear hbe hgr hit hob hst
    by_cases hlt : j < n
    · have hjs : j < s.size := by rw [← HN.out]; exact hlt
      have hnx := fun ty => next_at (P := Try.prog) HIt2.out hjs (HAsc.out j hjs) ty
      have hatl : at' < l.length := by have := HSt.out.at_lt; have := HLN.out; omega
      have hatn : at' < n := by rw [← HLN.out]; exact hatl
      have hats : at' < s.size := by rw [← HN.out]; exact hatn
      have hget := HGet.out at' hatl hats
      obtain ⟨w6, hw6⟩ : ∃ w6, w6 = iterTo wr g s (j + 1) := ⟨_, rfl⟩
      rw [← hw6] at hnx
      have HIt6 := Lib.hid (show IterB w6 g s (j + 1) from by rw [hw6]; exact iterTo_self Hgr.out)
      have HB6 := Lib.hid (show Below g w w6 from by rw [hw6]; exact iterTo_below HBe.out (Nat.le_refl _))
      have Hg6 := Lib.hid (show g + 1 ≤ w6.heap.size from by
        have h : (iterTo wr g s (j + 1)).heap.size = wr.heap.size := by unfold iterTo; simp
        rw [hw6, h]; exact Hgr.out)
      have HOb6 := Lib.hid (show OwnByts (g + 1) w6 u4 OL from own_blk HOb.out fun q hq => by
        rw [hw6]
        exact iterTo_other (by have := (HOb.out.lt q hq).1; omega))
      have HC := Lib.hid hget
      clear hw6
      by_cases h10 : l[at'] = 10
      · have h10n : s[at'].toNat = 10 := by rw [hget, h10]; rfl
        have HE := Lib.hid (HSt.out.stop hatl h10)
        clear h10 hget
        go_wp2_with fail
        have HOL := Lib.hid (show OL.length ≤ 201 by rw [HSt.out.len]; omega)
        have HBw := Lib.hid (show Below w.heap.size w w6 from by rw [← Hg.out]; exact HB6.out)
        obtain ⟨X, hX, hXb⟩ : ∃ X : ByteArray, strV OL = .string X ∧ bs X = OL := ⟨⟨OL.toArray⟩, rfl, rfl⟩
        have hXs : X.size ≤ 1000 := by rw [← bs_len, hXb]; have := HOL.out; omega
        have hcv := conv_str HOb6.out.byts
        rw [hX] at hcv
        have HX := Lib.hid hX
        have HXb := Lib.hid hXb
        have HXs := Lib.hid hXs
        clear hX hXb hXs
        have hn0b : ((n : Int) == 0) = false := by rw [beq_eq_false_iff_ne]; omega
        by_cases hL : Lab OL
        · have HLb := Lib.hid (label_b X HXs.out true (decide_eq_true (by rw [HXb.out]; exact hL)))
          have HTr := Lib.hid (transformR_any X HXs.out)
          obtain ⟨Y, hY, hYb⟩ : ∃ Y : ByteArray, strV (tr OL) = .string Y ∧ bs Y = tr OL := ⟨⟨(tr OL).toArray⟩, rfl, rfl⟩
          rw [HXb.out, hY] at HTr
          have heq := HSl.out Y
          rw [hYb] at heq
          have HOk := Lib.hid (show ∀ w', Below w6.heap.size w6 w' → (convert 53 9 u4).run Try.prog w' = .ok (.string X) w' from fun w' hb => by
            have h := conv_str (Byts.keep HOb6.out.byts hb)
            rw [HX.out] at h
            exact h)
          have HLab := Lib.hid hL
          clear hY hYb hL
          by_cases htr : tr OL = l
          · rw [decide_eq_true htr] at heq
            have HTr2 := Lib.hid htr
            clear htr
            go_wp2_with fail
            first | (rw [hcv]; simp only [Result.andThen]; rw [Oper.upon_value]; go_wp2_with fail) | skip
            refine (HLb.out _).mono ?_
            rintro e w' ⟨rfl, hw'⟩
            subst hw'
            go_wp2_with fail
            refine (HTr.out _).mono ?_
            rintro e w8 ⟨rfl, hb8⟩
            have hcv8 := HOk.out w8 hb8
            have HB8 := Lib.hid (Below.tr HBw.out hb8)
            clear hb8
            go_wp2_with fail
            go_ret2
            exact ⟨HB8.out, Or.inl ⟨OL, ⟨HLab.out, HTr2.out⟩, by rw [HX.out]; rfl⟩⟩
          · rw [decide_eq_false htr] at heq
            have HNo := Lib.hid (show ¬ ∃ T, IsBk l T from fun ⟨T, hT⟩ => htr (by rw [HE.out T hT]; exact hT.2))
            clear htr
            go_wp2_with fail
            first | (rw [hcv]; simp only [Result.andThen]; rw [Oper.upon_value]; go_wp2_with fail) | skip
            refine (HLb.out _).mono ?_
            rintro e w' ⟨rfl, hw'⟩
            subst hw'
            go_wp2_with fail
            refine (HTr.out _).mono ?_
            rintro e w8 ⟨rfl, hb8⟩
            have HB8 := Lib.hid (Below.tr HBw.out hb8)
            clear hb8
            go_wp2_with fail
            go_ret2
            exact ⟨HB8.out, Or.inr ⟨HNo.out, rfl⟩⟩
        · have HLb := Lib.hid (label_b X HXs.out false (decide_eq_false (by rw [HXb.out]; exact hL)))
          have HNo := Lib.hid (show ¬ ∃ T, IsBk l T from fun ⟨T, hT⟩ => hL (by rw [HE.out T hT]; exact hT.1))
          clear hL
          go_wp2_with fail
          first | (rw [hcv]; simp only [Result.andThen]; rw [Oper.upon_value]; go_wp2_with fail) | skip
          refine (HLb.out _).mono ?_
          rintro e w' ⟨rfl, hw'⟩
          subst hw'
          go_wp2_with fail
          go_ret2
          exact ⟨HBw.out, Or.inr ⟨HNo.out, rfl⟩⟩
      · have h10n : s[at'].toNat ≠ 10 := by
          rw [hget]
          intro e; exact h10 (UInt8.toNat_inj.1 e)
        have h10b : ((s[at'].toNat : Int) == 10) = false := by rw [beq_eq_false_iff_ne]; omega
        have H10 := Lib.hid h10
        have HOLn := Lib.hid (show OL.length ≤ 1000 by rw [HSt.out.len]; omega)
        clear h10 hget
        go_wp2_with (at_builtin; refine append_srcL rfl (.tmp 22) (.tmp 23) 53 rfl elemBytes (base := g + 1) (n := 1) (xs := [.int .u8 s[at'].toNat]) rfl ?c0 rfl (Rd.src (Byts.keep HOb6.out.byts (below_alloc _ _))) ?c1 ?c2 ?c3 ?_)
        case c0 =>
          have := World.ownsRow_lit (e := 5) (base := g + 1) (size := 1) w6 #[.int .u8 s[at'].toNat] 1 Hg6.out (by unfold maxLen; omega) rfl
          exact this
        case c1 => exact byts_one _
        case c2 => have := HOLn.out; omega
        case c3 => have := Hg6.out; simp; omega
        intro v7 w7 hown7 hb7 _
        have HB7 := Lib.hid (show Below (g + 1) w6 w7 from (below_alloc w6 _ |>.mono Hg6.out).trans hb7)
        have HO7 := Lib.hid (show OwnByts (g + 1) w7 v7 (l[at'] :: OL) from by
          unfold OwnByts
          rw [← HC.out, List.length_cons, Nat.add_comm OL.length 1]
          exact hown7)
        clear hown7 hb7
        go_wp2_with fail
        go_loopw [7, 27] (fun vp vk wr => ∃ k : Nat, vk = .int .i64 k ∧ k ≤ n ∧ wr = w7 ∧ vp = .int .i64 (1 + (List.range k).countP (fun x => l.getD x 0 != 10 && bf l at' x) : Nat)) (fun _ vk _ => n - (intOf vk).toNat)
        case atStart => exact ⟨0, rfl, Nat.zero_le _, rfl, rfl⟩
        case round =>
          obtain ⟨k, rfl, hk, hwr, rfl⟩ := hrel
          subst hwr
          obtain ⟨C, hC⟩ : ∃ C, C = 1 + (List.range k).countP (fun x => l.getD x 0 != 10 && bf l at' x) := ⟨_, rfl⟩
          have hCk : C ≤ 1 + k := by
            have := List.countP_le_length (p := fun x => l.getD x 0 != 10 && bf l at' x) (l := List.range k)
            rw [List.length_range] at this
            omega
          rw [← hC]
          by_cases hltk : k < n
          · have hks : k < s.size := by rw [← HN.out]; exact hltk
            have hkl : k < l.length := by rw [HLN.out]; exact hltk
            have hgk := HGet.out k hkl hks
            have hgd : l.getD k 0 = s[k] := by rw [hgk, List.getD_eq_getElem?_getD, List.getElem?_eq_getElem hkl]; rfl
            have hga : l.getD at' 0 = s[at'] := by rw [HC.out, List.getD_eq_getElem?_getD, List.getElem?_eq_getElem hatl]; rfl
            have hsucc := pr_succ l at' k
            have HNx := Lib.hid (show ∀ b : Bool, (l.getD k 0 != 10 && bf l at' k) = b → 1 + (List.range (k + 1)).countP (fun x => l.getD x 0 != 10 && bf l at' x) = C + (if b = true then 1 else 0) from fun b hb => by rw [hsucc, hb, hC]; omega)
            have hwC : IntKind.i64.wrap ((C : Int) + 1) = ((C + 1 : Nat) : Int) := by rw [IntWalk.i64_in _ ⟨by omega, by omega⟩]; omega
            have HBf := Lib.hid (show (l.getD k 0 != 10 && bf l at' k) = (s[k] != 10 && (decide (s[k] < s[at']) || (s[k] == s[at'] && decide (k < at')))) from by unfold bf; rw [hgd, hga])
            clear hgk hgd hga hsucc hC
            by_cases q1 : s[k].toNat = 10
            · have HF := Lib.hid (HNx.out false (by rw [HBf.out, show (s[k] != 10) = false by rw [bne_eq_false_iff_eq]; exact UInt8.toNat_inj.1 q1]; rfl))
              go_wp2_with fail
              go_roundw
              case rel => exact ⟨k + 1, by go_num, by omega, trivial, by rw [HF.out]; rfl⟩
              case measure => simp [intOf]; omega
            · have q1b : ((s[k].toNat : Int) != 10) = true := bne_iff_ne.2 (by omega)
              have e1 : (s[k] != 10) = true := bne_iff_ne.2 fun e => q1 (by rw [e]; rfl)
              by_cases q2 : s[k].toNat < s[at'].toNat
              · have HF := Lib.hid (HNx.out true (by rw [HBf.out, e1, show decide (s[k] < s[at']) = true from decide_eq_true (UInt8.lt_iff_toNat_lt.2 q2)]; rfl))
                clear e1
                go_wp2_with fail
                go_roundw
                case rel => exact ⟨k + 1, by go_num, by omega, trivial, by rw [HF.out, if_pos rfl]; go_num⟩
                case measure => simp [intOf]; omega
              · have e2 : decide (s[k] < s[at']) = false := decide_eq_false fun h => q2 (UInt8.lt_iff_toNat_lt.1 h)
                by_cases q3 : s[k].toNat = s[at'].toNat
                · have e3 : (s[k] == s[at']) = true := by rw [beq_iff_eq]; exact UInt8.toNat_inj.1 q3
                  have q3b : ((s[k].toNat : Int) == (s[at'].toNat : Int)) = true := by rw [beq_iff_eq]; omega
                  by_cases q4 : k < at'
                  · have HF := Lib.hid (HNx.out true (by rw [HBf.out, e1, e2, e3, decide_eq_true q4]; rfl))
                    have q4z : (k : Int) < (at' : Int) := by omega
                    clear e1 e2 e3
                    go_wp2_with fail
                    go_roundw
                    case rel => exact ⟨k + 1, by go_num, by omega, trivial, by rw [HF.out, if_pos rfl]; go_num⟩
                    case measure => simp [intOf]; omega
                  · have HF := Lib.hid (HNx.out false (by rw [HBf.out, e1, e2, e3, decide_eq_false q4]; rfl))
                    have q4z : ¬ ((k : Int) < (at' : Int)) := by omega
                    clear e1 e2 e3
                    go_wp2_with fail
                    go_roundw
                    case rel => exact ⟨k + 1, by go_num, by omega, trivial, by rw [HF.out]; rfl⟩
                    case measure => simp [intOf]; omega
                · have e3 : (s[k] == s[at']) = false := by rw [beq_eq_false_iff_ne]; intro e; exact q3 (by rw [e])
                  have q3b : ((s[k].toNat : Int) == (s[at'].toNat : Int)) = false := by rw [beq_eq_false_iff_ne]; omega
                  have HF := Lib.hid (HNx.out false (by rw [HBf.out, e1, e2, e3]; rfl))
                  clear e1 e2 e3
                  go_wp2_with fail
                  go_roundw
                  case rel => exact ⟨k + 1, by go_num, by omega, trivial, by rw [HF.out]; rfl⟩
                  case measure => simp [intOf]; omega
          · obtain rfl : n = k := by omega
            have hpr : C = pr l at' := by rw [hC]; unfold pr; rw [HLN.out]
            clear hC
            by_cases hfit : C < n
            · have HSt7 := Lib.hid (HSt.out.step hatl H10.out (by rw [← hpr, HLN.out]; exact hfit))
              rw [← hpr] at HSt7
              have HB8 := Lib.hid (show Below g w wr from HB6.out.trans (HB7.out.mono (Nat.le_succ g)))
              have HI8 := Lib.hid (HIt6.out.keep HB7.out)
              have Hg8 := Lib.hid (show g < wr.heap.size from by have := HB7.out.size; have := Hg6.out; omega)
              have hfz : ¬ ((n : Int) ≤ (C : Int)) := by omega
              have hfz2 : ¬ ((C : Int) ≥ (n : Int)) := by omega
              clear hpr
              go_wp2_with fail
              go_roundg (gk - 1)
              case measure => omega
              case rel => exact ⟨C, j + 1, _, by omega, rfl, by omega, HB8.out, Hg8.out, HI8.out, HO7.out, HSt7.out⟩
            · have HNo := Lib.hid (show ¬ ∃ T, IsBk l T from fun ⟨T, hT⟩ => by
                have := HSt.out.fit hatl H10.out hT
                rw [HLN.out, ← hpr] at this
                exact hfit this)
              have hfz : (n : Int) ≤ (C : Int) := by omega
              have HB8 := Lib.hid (show Below w.heap.size w wr from by rw [← Hg.out]; exact HB6.out.trans (HB7.out.mono (Nat.le_succ g)))
              clear hpr
              go_wp2_with fail
              go_ret2
              exact ⟨HB8.out, Or.inr ⟨HNo.out, rfl⟩⟩
    · obtain rfl : n = j := by omega
      have hjs : ¬ n < s.size := by rw [← HN.out]; exact Nat.lt_irrefl _
      have hnx := fun ty => next_end (P := Try.prog) HIt2.out hjs ty
      have HE := Lib.hid (show ∀ T, IsBk l T → OL = T from fun T hT => absurd ⟨T, hT⟩ (HSt.out.over (by rw [HLN.out]; exact Nat.le_refl _)))
      have HOL := Lib.hid (show OL.length ≤ 201 by rw [HSt.out.len]; omega)
      have HBw := Lib.hid (show Below w.heap.size w wr from by rw [← Hg.out]; exact HBe.out)
      obtain ⟨X, hX, hXb⟩ : ∃ X : ByteArray, strV OL = .string X ∧ bs X = OL := ⟨⟨OL.toArray⟩, rfl, rfl⟩
      have hXs : X.size ≤ 1000 := by rw [← bs_len, hXb]; have := HOL.out; omega
      have hcv := conv_str HOb.out.byts
      rw [hX] at hcv
      have HX := Lib.hid hX
      have HXb := Lib.hid hXb
      have HXs := Lib.hid hXs
      clear hX hXb hXs
      by_cases hn0 : n = 0
      · have HNo := Lib.hid (show ¬ ∃ T, IsBk l T from fun ⟨T, hT⟩ => by have := hT.len; have := HLN.out; omega)
        have hn0b : ((n : Int) == 0) = true := by rw [beq_iff_eq]; omega
        go_wp2_with fail
        go_ret2
        exact ⟨HBw.out, Or.inr ⟨HNo.out, rfl⟩⟩
      · have hn0b : ((n : Int) == 0) = false := by rw [beq_eq_false_iff_ne]; omega
        by_cases hL : Lab OL
        · have HLb := Lib.hid (label_b X HXs.out true (decide_eq_true (by rw [HXb.out]; exact hL)))
          have HTr := Lib.hid (transformR_any X HXs.out)
          obtain ⟨Y, hY, hYb⟩ : ∃ Y : ByteArray, strV (tr OL) = .string Y ∧ bs Y = tr OL := ⟨⟨(tr OL).toArray⟩, rfl, rfl⟩
          rw [HXb.out, hY] at HTr
          have heq := HSl.out Y
          rw [hYb] at heq
          have HOk := Lib.hid (show ∀ w', Below wr.heap.size wr w' → (convert 53 9 u4).run Try.prog w' = .ok (.string X) w' from fun w' hb => by
            have h := conv_str (Byts.keep HOb.out.byts hb)
            rw [HX.out] at h
            exact h)
          have HLab := Lib.hid hL
          clear hY hYb hL
          by_cases htr : tr OL = l
          · rw [decide_eq_true htr] at heq
            have HTr2 := Lib.hid htr
            clear htr
            go_wp2_with fail
            first | (rw [hcv]; simp only [Result.andThen]; rw [Oper.upon_value]; go_wp2_with fail) | skip
            refine (HLb.out _).mono ?_
            rintro e w' ⟨rfl, hw'⟩
            subst hw'
            go_wp2_with fail
            refine (HTr.out _).mono ?_
            rintro e w8 ⟨rfl, hb8⟩
            have hcv8 := HOk.out w8 hb8
            have HB8 := Lib.hid (Below.tr HBw.out hb8)
            clear hb8
            go_wp2_with fail
            go_ret2
            exact ⟨HB8.out, Or.inl ⟨OL, ⟨HLab.out, HTr2.out⟩, by rw [HX.out]; rfl⟩⟩
          · rw [decide_eq_false htr] at heq
            have HNo := Lib.hid (show ¬ ∃ T, IsBk l T from fun ⟨T, hT⟩ => htr (by rw [HE.out T hT]; exact hT.2))
            clear htr
            go_wp2_with fail
            first | (rw [hcv]; simp only [Result.andThen]; rw [Oper.upon_value]; go_wp2_with fail) | skip
            refine (HLb.out _).mono ?_
            rintro e w' ⟨rfl, hw'⟩
            subst hw'
            go_wp2_with fail
            refine (HTr.out _).mono ?_
            rintro e w8 ⟨rfl, hb8⟩
            have HB8 := Lib.hid (Below.tr HBw.out hb8)
            clear hb8
            go_wp2_with fail
            go_ret2
            exact ⟨HB8.out, Or.inr ⟨HNo.out, rfl⟩⟩
        · have HLb := Lib.hid (label_b X HXs.out false (decide_eq_false (by rw [HXb.out]; exact hL)))
          have HNo := Lib.hid (show ¬ ∃ T, IsBk l T from fun ⟨T, hT⟩ => hL (by rw [HE.out T hT]; exact hT.1))
          clear hL
          go_wp2_with fail
          first | (rw [hcv]; simp only [Result.andThen]; rw [Oper.upon_value]; go_wp2_with fail) | skip
          refine (HLb.out _).mono ?_
          rintro e w' ⟨rfl, hw'⟩
          subst hw'
          go_wp2_with fail
          go_ret2
          exact ⟨HBw.out, Or.inr ⟨HNo.out, rfl⟩⟩
#print axioms backR_any
end Go.Proofs.Ytbnlkmblkokooaa

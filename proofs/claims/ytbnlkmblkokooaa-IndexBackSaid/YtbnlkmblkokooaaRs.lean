/- Contract of the reference's Sort. -/
import Derived.Test.YtbnlkmblkokooaaCom
import Derived.Test.YtbnlkmblkokooaaSrc
namespace Go.Proofs.Ytbnlkmblkokooaa
open Go.RowKit

theorem while_eq {α : Type} (p : α → Bool) : ∀ (l : List α) (q : Nat), q ≤ l.length → (∀ r (h : r < l.length), r < q → p l[r] = true) → (∀ h : q < l.length, p l[q] = false) → l.takeWhile p = l.take q ∧ l.dropWhile p = l.drop q
  | [], q, _, _, _ => by simp
  | a :: l, 0, _, _, h => by
    have := h (by simp)
    simp only [List.getElem_cons_zero] at this
    simp [this]
  | a :: l, q + 1, hq, h, h2 => by
    have h0 := h 0 (by simp) (by omega)
    simp only [List.getElem_cons_zero] at h0
    have ih := while_eq p l q (by simpa using hq) (fun r hr hrq => by
      have := h (r + 1) (by simpa using hr) (by omega)
      simpa using this) (fun hh => by
      have := h2 (by simpa using hh)
      simpa using this)
    rw [List.takeWhile_cons_of_pos h0, List.dropWhile_cons_of_pos h0, ih.1, ih.2]
    simp
theorem insS_at {l : Bs} {i q : Nat} {m : List Nat} (hq : q ≤ m.length) (h1 : ∀ r, r < q → sl l (at' m r) i) (h2 : q < m.length → ¬ sl l (at' m q) i) : insS l i m = m.take q ++ i :: m.drop q := by
  have := while_eq (fun j => decide (sl l j i)) m q hq (fun r h hr => by rw [at_get h]; exact decide_eq_true (h1 r hr)) (fun h => by rw [at_get h]; exact decide_eq_false (h2 h))
  unfold insS
  rw [this.1, this.2]
theorem own_lit0 (w : World) (base : Nat) (h : base ≤ w.heap.size) : (w.alloc (.cells #[] 3)).ownsRow base 3 1 (.slice (some ⟨w.heap.size, 0, none⟩) 0 0) 0 [] := World.ownsRow_lit w #[] 0 h (by unfold maxLen; omega) rfl
theorem src_one (w : World) (x : Value) (e : TypeId) : Src (w.alloc (.cells #[x] e)) (.slice (some ⟨w.heap.size, 0, none⟩) 1 1) 1 1 [x] :=
  ⟨rfl, .inr ⟨_, _, rfl, fun j u hj => by
    rw [Addr.add_lit, Nat.zero_add, cell_new]; simpa using hj⟩⟩
theorem own_lit1 (w : World) (o : Obj) (base : Nat) (h : base ≤ w.heap.size) : ((w.alloc o).alloc (.cells #[] 3)).ownsRow base 3 1 (.slice (some ⟨w.heap.size + 1, 0, none⟩) 0 0) 0 [] := by
  have := own_lit0 (w.alloc o) base (by simp; omega)
  rw [show (w.alloc o).heap.size = w.heap.size + 1 by simp] at this
  exact this
theorem src_first {w w7 : World} {x : Value} {e : TypeId} {o : Obj} {r : Option Nat} (hg : ((w.alloc (.cells #[x] e)).alloc o).drew.grownBy w7 r) (hr : r = some (w.heap.size + 1)) : Src w7 (.slice (some ⟨w.heap.size, 0, none⟩) 1 1) 1 1 [x] :=
  Src.grown (w := ((w.alloc (.cells #[x] e)).alloc o).drew) (Src.keep (src_one w x e) (below_alloc _ _).drew) hg fun ad n c h => by
    injection h with h1; injection h1 with h1; subst h1; rw [hr]; simp
theorem src_second {w w7 : World} {x : Value} {e : TypeId} {o : Obj} {r : Option Nat} (hg : ((w.alloc o).alloc (.cells #[x] e)).drew.grownBy w7 r) (hr : r = some w.heap.size) : Src w7 (.slice (some ⟨w.heap.size + 1, 0, none⟩) 1 1) 1 1 [x] := by
  have h := src_one (w.alloc o) x e
  rw [show (w.alloc o).heap.size = w.heap.size + 1 by simp] at h
  exact Src.grown (w := ((w.alloc o).alloc (.cells #[x] e)).drew) h hg fun ad n c h => by
    injection h with h1; injection h1 with h1; subst h1; rw [hr]; simp
theorem own_ins {w : World} {b base q j : Nat} {v : Value} {M : List Nat} {l : Bs} (h : w.ownsRow b 3 1 v (0 + q + 1 + (j - q)) ([] ++ List.take (q * 1) ((castN M).map (Value.int .i64)) ++ [.int .i64 (j : Nat)] ++ List.drop (q * 1) ((castN M).map (Value.int .i64)))) (hq : q ≤ j) (hM : M.length = j) (hb : base ≤ b) (R : insS l j M = M.take q ++ j :: M.drop q) : OwnInts base w v (castN (insS l j M)) := by
  have e1 : (castN (insS l j M)).map (Value.int .i64) = [] ++ List.take (q * 1) ((castN M).map (Value.int .i64)) ++ [.int .i64 (j : Nat)] ++ List.drop (q * 1) ((castN M).map (Value.int .i64)) := by
    rw [R]; simp [castN]
  have e2 : (castN (insS l j M)).length = 0 + q + 1 + (j - q) := by
    rw [R]; simp [castN]; omega
  unfold OwnInts
  rw [e1, e2]
  exact owns_base h hb
theorem castN_take (l : List Nat) (k : Nat) : (castN l).take k = castN (l.take k) := by simp [castN]
theorem castN_drop (l : List Nat) (k : Nat) : (castN l).drop k = castN (l.drop k) := by simp [castN]
set_option maxRecDepth 100000 in
set_option maxHeartbeats 4000000 in
theorem sortR_any (s : ByteArray) (hs : s.size ≤ 1000) (w : World) :
    Calls Try.prog 24 #[.string s] w fun e w' => ∃ v', e = .returned v' ∧ OwnInts w.heap.size w' v' (castN (sa (bs s))) ∧ Below w.heap.size w w' := by
  obtain ⟨n, hn⟩ : ∃ n, n = s.size + 1 := ⟨_, rfl⟩
  have HN := Lib.hid hn
  have hn1 : n ≤ 1001 := by omega
  have hnI : IntKind.i64.wrap ((s.size : Int) + 1) = (n : Int) := by rw [IntWalk.i64_in _ ⟨by omega, by omega⟩]; omega
  clear hn
  go_enter Try.func24, Try.ntmps24
  go_wp2_with fail
  go_loopw [3, 9] (fun o i wr => ∃ j : Nat, i = .int .i64 j ∧ j ≤ n ∧ Below w.heap.size w wr ∧ OwnInts w.heap.size wr o (castN (saTo (bs s) j))) (fun _ i _ => n - (intOf i).toNat)
  case atStart => exact ⟨0, rfl, Nat.zero_le _, Below.refl _ _, ownInts_nil _ _⟩
  case round =>
    obtain ⟨j, rfl, hj, hb, hown⟩ := hrel
    obtain ⟨a1, b1, off1, cap1, hv, hle1, ha1, hc1⟩ := Ints.nats (OwnInts.ints hown)
    subst hv
    have Hb := Lib.hid hb
    have Hown := Lib.hid hown
    have hsl : (saTo (bs s) j).length = j := saTo_length _ _
    rw [hsl] at ha1 hc1 hle1 ⊢
    have Hsl := Lib.hid hsl
    clear hb hown hsl
    by_cases hlt : j < n
    · have hjs : j ≤ s.size := by have := HN.out; omega
      have hix1 := run_ix (P := Try.prog) (t := 23) (a := a1) (len := j) (cap := cap1) (b := b1) (off := off1) (s := 1) Try.underlying23 (by intro w; kernel_rfl) ha1
      simp only [Nat.mul_one] at hix1
      have Hix1 := Lib.hid hix1
      have Hc1 := Lib.hid hc1
      have Hmem := Lib.hid (show ∀ r, r < j → at' (saTo (bs s) j) r ≤ s.size from fun r hr => by
        have : at' (saTo (bs s) j) r ∈ saTo (bs s) j := by rw [← at_get (by rw [Hsl.out]; exact hr)]; exact List.getElem_mem _
        have := saTo_mem.1 this
        omega)
      obtain ⟨M, hM⟩ : ∃ M, M = saTo (bs s) j := ⟨_, rfl⟩
      rw [← hM] at Hc1 Hmem Hsl Hown
      have HM := Lib.hid hM
      clear ha1 hc1 hix1 hle1 hM
      go_wp2_with fail
      obtain ⟨wo, rfl⟩ : ∃ wo : World, wo = wr := ⟨_, rfl⟩
      go_loopw [5] (fun x wr => ∃ q : Nat, x = .int .i64 q ∧ q ≤ j ∧ (∃ d, wr = wo.drewN d) ∧ ∀ r, r < q → sl (bs s) (at' M r) j) (fun x _ => j - (intOf x).toNat)
      case atStart => exact ⟨0, rfl, Nat.zero_le _, ⟨0, rfl⟩, fun r hr => by omega⟩
      case round =>
        obtain ⟨q, rfl, hq, ⟨d, rfl⟩, hin⟩ := hrel
        have Hin := Lib.hid hin
        clear hin
        by_cases hqj : q < j
        · have hcq := Hc1.out q hqj
          have hmq := Hmem.out q hqj
          have hixq := Hix1.out q
          obtain ⟨x, hx⟩ : ∃ x, x = at' M q := ⟨_, rfl⟩
          rw [← hx] at hcq hmq
          by_cases hlss : sl (bs s) x j
          · have R := Lib.hid (show ∀ r, r < q + 1 → sl (bs s) (at' M r) j from fun r hr => by
              by_cases e : r = q
              · subst e; rw [← hx]; exact hlss
              · exact Hin.out r (by omega))
            have hd : Op.bytesLess (s.extract x s.size).toList (s.extract j s.size).toList = true := by
              rw [Lib.toList_data, Lib.toList_data, Lib.extract_to_end, Lib.extract_to_end]; exact hlss
            clear hlss hx
            go_wp2_with fail
            go_quiet (fail)
            go_wp2_with fail
            go_roundw
            case rel => exact ⟨q + 1, by go_num, by omega, ⟨_, rfl⟩, R.out⟩
            case measure => simp [intOf]; omega
          · have hd : Op.bytesLess (s.extract x s.size).toList (s.extract j s.size).toList = false := by
              rw [Lib.toList_data, Lib.toList_data, Lib.extract_to_end, Lib.extract_to_end]
              cases e : Op.bytesLess ((bs s).drop x) ((bs s).drop j) with
              | false => exact e
              | true => exact absurd e hlss
            have R := Lib.hid (insS_at (l := bs s) (i := j) (q := q) (m := M) (by rw [Hsl.out]; omega) Hin.out (fun _ => by rw [← hx]; exact hlss))
            clear hlss hx
            go_wp2_with fail
            go_quiet (fail)
            go_wp2_with fail
            have hb5 : Below w.heap.size w ((wo.drewN d).drewN nq) := bdrewN (bdrewN Hb.out _) _
            have hown5 : OwnInts w.heap.size ((wo.drewN d).drewN nq) (.slice a1 j cap1) (castN M) := by have := Hown.out; rw [Hsl.out] at this; exact this
            generalize (wo.drewN d).drewN nq = w5 at *
            have hrd := OwnInts.ints hown5
            unfold Ints at hrd
            rw [castN_length, Hsl.out] at hrd
            obtain ⟨u1, hu1, hs1⟩ := part_to (P := Try.prog) (t := 23) Try.underlying23 (by intro w; kernel_rfl) hrd hq
            obtain ⟨u2, hu2, hs2⟩ := part_from (P := Try.prog) (t := 23) Try.underlying23 (by intro w; kernel_rfl) hrd hq
            have Hs1 := Lib.hid hs1
            have Hs2 := Lib.hid hs2
            have Hb5 := Lib.hid hb5
            have Hz := Lib.hid hb5.size
            clear hb5 hown5 hrd hs1 hs2 hcq hd hmq hixq
            go_upto_region 8 with fail
            go_region_law (first
              | (refine step_append_src rfl (.tmp 30) (.tmp 33) 23 rfl elemInts (by rfl) (base := w5.heap.size) (n := 0) (xs := []) (by first | exact own_lit0 _ _ (Nat.le_refl _) | exact World.ownsRow.alloc (own_lit0 _ _ (Nat.le_refl _)) _ | exact own_lit1 _ _ _ (Nat.le_refl _)) (by rfl) (Src.keep Hs1.out (by repeat (first | exact Below.refl _ _ | refine Below.drew ?_ | refine Below.alloc ?_ (by simp) _))) (by intro u hu; exact ints_oneCell _ u (List.mem_of_mem_take hu)) (by omega) (by simp; try omega) ?_; intro v7 w7 hown7 hb7 hg7; have HB7 := Lib.hid (show Below w5.heap.size w5 w7 from Below.trans (by repeat (first | exact Below.refl _ _ | refine Below.drew ?_ | refine Below.alloc ?_ (by simp) _)) hb7); have HG7 := Lib.hid hg7; clear hb7 hg7)
              | (refine step_append_src rfl (.tmp 34) (.tmp 36) 23 rfl elemInts (by rfl) (base := w5.heap.size) (n := 0 + q) (by first | exact hown7 | exact World.ownsRow.alloc hown7 _) (by rfl) (m := 1) (news := [.int .i64 (j : Nat)]) (by first | exact src_one _ _ _ | exact src_first HG7.out rfl | exact src_second HG7.out rfl) (by intro u hu; simp at hu; subst hu; rfl) (by omega) (by have := HB7.out.size; simp; try omega) ?_; intro v8 w8 hown8 hb8 hg8; have HB8 := Lib.hid (show Below w5.heap.size w5 w8 from Below.trans (by first | exact HB7.out | exact Below.alloc HB7.out HB7.out.size _) hb8); clear hb8 hg8)
              | (refine step_append_src rfl (.tmp 37) (.tmp 40) 23 rfl elemInts (by rfl) (base := w5.heap.size) (n := 0 + q + 1) (by exact hown8) (by rfl) (Src.keep Hs2.out HB8.out) (by intro u hu; exact ints_oneCell _ u (List.mem_of_mem_drop hu)) (by omega) (by exact HB8.out.size) ?_; intro v9 w9 hown9 hb9 hg9; have HB9 := Lib.hid (Below.trans HB8.out hb9); clear hb9 hg9))
            all_goals
              have HO := Lib.hid (show OwnInts w.heap.size w9 v9 (castN (saTo (bs s) (j + 1))) from by
                have := own_ins hown9 hq Hsl.out Hz.out R.out
                rw [HM.out] at this
                exact this)
              clear hown9 hown8 hown7 hu1 hu2
              go_wp2_with fail
              go_roundw
              case rel => exact ⟨j + 1, by go_num, by omega, Hb5.out.trans (HB9.out.mono Hz.out), HO.out⟩
              case measure => simp [intOf]; omega
        · obtain rfl : q = j := by omega
          have hd : decide (q < q) = false := decide_eq_false hqj
          have R := Lib.hid (insS_at (l := bs s) (i := q) (q := q) (m := M) (by rw [Hsl.out]; omega) Hin.out (fun h => by rw [Hsl.out] at h; omega))
          go_wp2_with fail
          go_quiet (fail)
          go_wp2_with fail
          have hb5 : Below w.heap.size w ((wo.drewN d).drewN nq) := bdrewN (bdrewN Hb.out _) _
          have hown5 : OwnInts w.heap.size ((wo.drewN d).drewN nq) (.slice a1 q cap1) (castN M) := by have := Hown.out; rw [Hsl.out] at this; exact this
          generalize (wo.drewN d).drewN nq = w5 at *
          have hrd := OwnInts.ints hown5
          unfold Ints at hrd
          rw [castN_length, Hsl.out] at hrd
          obtain ⟨u1, hu1, hs1⟩ := part_to (P := Try.prog) (t := 23) Try.underlying23 (by intro w; kernel_rfl) hrd hq
          obtain ⟨u2, hu2, hs2⟩ := part_from (P := Try.prog) (t := 23) Try.underlying23 (by intro w; kernel_rfl) hrd hq
          have Hs1 := Lib.hid hs1
          have Hs2 := Lib.hid hs2
          have Hb5 := Lib.hid hb5
          have Hz := Lib.hid hb5.size
          clear hb5 hown5 hrd hs1 hs2 hd
          go_upto_region 8 with fail
          go_region_law (first
            | (refine step_append_src rfl (.tmp 30) (.tmp 33) 23 rfl elemInts (by rfl) (base := w5.heap.size) (n := 0) (xs := []) (by first | exact own_lit0 _ _ (Nat.le_refl _) | exact World.ownsRow.alloc (own_lit0 _ _ (Nat.le_refl _)) _ | exact own_lit1 _ _ _ (Nat.le_refl _)) (by rfl) (Src.keep Hs1.out (by repeat (first | exact Below.refl _ _ | refine Below.drew ?_ | refine Below.alloc ?_ (by simp) _))) (by intro u hu; exact ints_oneCell _ u (List.mem_of_mem_take hu)) (by omega) (by simp; try omega) ?_; intro v7 w7 hown7 hb7 hg7; have HB7 := Lib.hid (show Below w5.heap.size w5 w7 from Below.trans (by repeat (first | exact Below.refl _ _ | refine Below.drew ?_ | refine Below.alloc ?_ (by simp) _)) hb7); have HG7 := Lib.hid hg7; clear hb7 hg7)
            | (refine step_append_src rfl (.tmp 34) (.tmp 36) 23 rfl elemInts (by rfl) (base := w5.heap.size) (n := 0 + q) (by first | exact hown7 | exact World.ownsRow.alloc hown7 _) (by rfl) (m := 1) (news := [.int .i64 (q : Nat)]) (by first | exact src_one _ _ _ | exact src_first HG7.out rfl | exact src_second HG7.out rfl) (by intro u hu; simp at hu; subst hu; rfl) (by omega) (by have := HB7.out.size; simp; try omega) ?_; intro v8 w8 hown8 hb8 hg8; have HB8 := Lib.hid (show Below w5.heap.size w5 w8 from Below.trans (by first | exact HB7.out | exact Below.alloc HB7.out HB7.out.size _) hb8); clear hb8 hg8)
            | (refine step_append_src rfl (.tmp 37) (.tmp 40) 23 rfl elemInts (by rfl) (base := w5.heap.size) (n := 0 + q + 1) (by exact hown8) (by rfl) (Src.keep Hs2.out HB8.out) (by intro u hu; exact ints_oneCell _ u (List.mem_of_mem_drop hu)) (by omega) (by exact HB8.out.size) ?_; intro v9 w9 hown9 hb9 hg9; have HB9 := Lib.hid (Below.trans HB8.out hb9); clear hb9 hg9))
          all_goals
            have HO := Lib.hid (show OwnInts w.heap.size w9 v9 (castN (saTo (bs s) (q + 1))) from by
              have := own_ins hown9 hq Hsl.out Hz.out R.out
              rw [HM.out] at this
              exact this)
            clear hown9 hown8 hown7 hu1 hu2
            go_wp2_with fail
            go_roundw
            case rel => exact ⟨q + 1, by go_num, by omega, Hb5.out.trans (HB9.out.mono Hz.out), HO.out⟩
            case measure => simp [intOf]; omega
    · obtain rfl : j = n := by omega
      have HO := Lib.hid (show OwnInts w.heap.size wr (.slice a1 j cap1) (castN (sa (bs s))) from by
        have := Hown.out
        rw [Hsl.out] at this
        rw [HN.out] at this ⊢
        unfold sa
        rw [bs_len]
        exact this)
      clear ha1 hc1 hle1
      go_wp2_with fail
      go_ret
      exact ⟨_, rfl, HO.out, Hb.out⟩
#print axioms sortR_any
end Go.Proofs.Ytbnlkmblkokooaa

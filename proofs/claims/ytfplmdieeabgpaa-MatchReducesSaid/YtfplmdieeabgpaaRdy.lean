/- Contract of the reference's Put, with a property of the rows' values. Contract of the reference's Reduce. -/
import Derived.Test.YtfplmdieeabgpaaPky
import Derived.Test.YtfplmdieeabgpaaRdz
namespace Go.Proofs.Ytfplmdieeabgpaa
open Go.RowKit
def RowsQ (q : Value → Prop) (w : World) (v : Value) (R : List (List Int)) : Prop := ∃ vs : List Value, vs.length = R.length ∧ Rd w v 1 R.length vs ∧ (∀ i (h : i < R.length) (h' : i < vs.length), Ints w vs[i] R[i]) ∧ ∀ x, x ∈ vs → q x
theorem RowsQ.rows {q : Value → Prop} {w : World} {v : Value} {R : List (List Int)} (h : RowsQ q w v R) : Rows w v R := by
  obtain ⟨vs, h1, h2, h3, _⟩ := h
  exact ⟨vs, h1, h2, h3⟩
theorem RowsQ.keep {q : Value → Prop} {w w' : World} {v : Value} {R : List (List Int)} (h : RowsQ q w v R) (hb : Below w.heap.size w w') : RowsQ q w' v R := by
  obtain ⟨vs, h1, h2, h3, h4⟩ := h
  exact ⟨vs, h1, Rd.keep h2 hb, fun i a b => Ints.keep (h3 i a b) hb, h4⟩
theorem rowsQ_nil (q : Value → Prop) (w : World) : RowsQ q w (.slice none 0 0) [] := by
  obtain ⟨vs, h1, h2, h3⟩ := (ownRows_nil 0 w).rows
  have : vs = [] := List.eq_nil_of_length_eq_zero h1
  subst this
  exact ⟨[], h1, h2, h3, fun x hx => by cases hx⟩
theorem rowsQ_of {q : Value → Prop} {w : World} {v : Value} {ps : List (Value × List Int)} {n : Nat} (hq : ∀ p, p ∈ ps → q p.1) (hn : n = ps.length) (h : Rd w v 1 n (ps.map (·.1))) (hi : ∀ p, p ∈ ps → Ints w p.1 p.2) : RowsQ q w v (ps.map (·.2)) := by
  subst hn
  refine ⟨ps.map (·.1), by simp, by rw [List.length_map]; exact h, fun i a b => ?_, fun x hx => ?_⟩
  · rw [List.getElem_map, List.getElem_map]
    exact hi _ (List.getElem_mem _)
  · obtain ⟨p, hp, rfl⟩ := List.mem_map.1 hx
    exact hq p hp
theorem put_endQ {w wd : World} {L : List (List Int)} {X : List Int} {lo n N : Nat} {vs : List Value} {u x : Value} (h : wd.ownsRow w.heap.size 22 1 u N ([] ++ vs.take lo ++ [x] ++ vs.drop lo)) (hb : Below w.heap.size w wd) (hl : vs.length = L.length) (hI : ∀ i (h : i < L.length) (h' : i < vs.length), Ints w vs[i] L[i]) {q : Value → Prop} (hqs : ∀ x, x ∈ vs → q x) (hqx : q x) (hx : Ints w x X) (hP : PutR L X (L.take lo ++ [X] ++ L.drop lo)) (hn : n = L.length) :
    ∃ a m k, Ending.returned u = .returned (.slice a m k) ∧ (∃ R, RowsQ q wd (.slice a m k) R ∧ PutR L X R) ∧ Below w.heap.size w wd := by
  have hps1 : (vs.zip L).map (·.1) = vs := List.map_fst_zip (by omega)
  have hps2 : (vs.zip L).map (·.2) = L := List.map_snd_zip (by omega)
  have hR := owns_rd h
  obtain ⟨a, m, k, rfl⟩ : ∃ a m k, u = .slice a m k := by
    obtain ⟨_, _, a, b, off, cap, e, _⟩ := hR
    exact ⟨_, _, _, e⟩
  refine ⟨a, m, k, rfl, ⟨_, ?_, hP⟩, hb⟩
  have e1 : [] ++ vs.take lo ++ [x] ++ vs.drop lo = ((vs.zip L).take lo ++ [(x, X)] ++ (vs.zip L).drop lo).map (·.1) := by
    rw [List.map_append, List.map_append, List.map_take, List.map_drop, hps1]; rfl
  have e2 : L.take lo ++ [X] ++ L.drop lo = ((vs.zip L).take lo ++ [(x, X)] ++ (vs.zip L).drop lo).map (·.2) := by
    rw [List.map_append, List.map_append, List.map_take, List.map_drop, hps2]; rfl
  rw [e1] at hR
  rw [e2]
  refine rowsQ_of (fun p hp => ?_) (by have := hR.1; rw [List.length_map] at this; omega) hR fun p hp => ?_
  · rcases List.mem_append.1 hp with hp | hp
    · rcases List.mem_append.1 hp with hp | hp
      · exact hqs _ (List.of_mem_zip (List.mem_of_mem_take hp)).1
      · rw [List.mem_singleton.1 hp]; exact hqx
    · exact hqs _ (List.of_mem_zip (List.mem_of_mem_drop hp)).1
  have hz : ∀ p, p ∈ vs.zip L → Ints wd p.1 p.2 := fun p hp => by
    obtain ⟨i, hi, rfl⟩ := List.getElem_of_mem hp
    rw [List.length_zip] at hi
    rw [List.getElem_zip]
    exact (hI i (by omega) (by omega)).keep hb
  rcases List.mem_append.1 hp with hp | hp
  · rcases List.mem_append.1 hp with hp | hp
    · exact hz p (List.mem_of_mem_take hp)
    · rw [List.mem_singleton.1 hp]; exact hx.keep hb
  · exact hz p (List.mem_of_mem_drop hp)
set_option maxRecDepth 100000 in
set_option maxHeartbeats 16000000 in
theorem put_anyQ (q : Value → Prop) (L : List (List Int)) (X : List Int) (hs : Strict L) (hl : L.length ≤ 1000000) (u v : Value) (w : World) (hu : RowsQ q w u L) (hv : Ints w v X) (hqv : q v) :
    Calls Try.prog 71 #[u, v] w fun e w' => ∃ a n k, e = .returned (.slice a n k) ∧ (∃ R, RowsQ q w' (.slice a n k) R ∧ PutR L X R) ∧ Below w.heap.size w w' := by
  have HRows := Lib.hid hu
  obtain ⟨a, b, off, cap, vs, rfl, hle, hia, hvs, hcs, hrs⟩ := hu.rows.get
  have Hix := Lib.hid (run_ix (P := Try.prog) (t := 27) (a := a) (len := L.length) (cap := cap) (b := b) (off := off) (s := 1) Try.underlying27 (by intro w; kernel_rfl) hia)
  simp only [Nat.mul_one] at Hix
  have Hc := Lib.hid (show ∀ i, i < L.length → w.cell? ⟨b, off + i, none⟩ = some (vs.getD i (.bool false)) ∧ Ints w (vs.getD i (.bool false)) (L.getD i []) from fun i hi => by
    rw [List.getD_eq_getElem?_getD, List.getElem?_eq_getElem (by omega : i < vs.length), List.getD_eq_getElem?_getD, List.getElem?_eq_getElem hi]
    exact ⟨hcs i (by omega), hrs i hi (by omega)⟩)
  obtain ⟨xa, xc, rfl⟩ := ints_slice hv
  obtain ⟨xn, hxn⟩ : ∃ x, x = X.length := ⟨_, rfl⟩
  rw [← hxn] at hv hqv ⊢
  have HQv := Lib.hid hqv
  have HX := Lib.hid hv
  have Hs := Lib.hid hs
  obtain ⟨n, hn⟩ : ∃ x, x = L.length := ⟨_, rfl⟩
  have Hn := Lib.hid hn
  rw [← hn] at Hix Hc HRows hl ⊢
  clear hu hv hqv hxn hs hn hia hvs hcs hrs hle
  go_enter Try.func71, Try.ntmps71
  go_wp2_with fail
  go_loopw [5, 6] (fun vl vh wr => ∃ lo hi : Nat, vl = .int .i64 lo ∧ vh = .int .i64 hi ∧ lo ≤ hi ∧ hi ≤ n ∧ wr = w ∧ (∀ i, i < lo → cmpL (L.getD i []) X < 0) ∧ ∀ i, hi ≤ i → i < n → 0 ≤ cmpL (L.getD i []) X) (fun vl vh _ => (intOf vh).toNat - (intOf vl).toNat)
  case atStart => exact ⟨0, n, rfl, rfl, Nat.zero_le _, Nat.le_refl _, rfl, fun i hi => by omega, fun i h1 h2 => by omega⟩
  case round =>
    obtain ⟨lo, hi, rfl, rfl, hlh, hhn, rfl, hlo, hhi⟩ := hrel
    have Hlo := Lib.hid hlo
    have Hhi := Lib.hid hhi
    clear hlo hhi
    by_cases hlt : lo < hi
    · obtain ⟨s, hs⟩ : ∃ s, s = lo + hi := ⟨_, rfl⟩
      obtain ⟨m, hm⟩ : ∃ m, m = s / 2 := ⟨_, rfl⟩
      have hadd : IntKind.i64.wrap ((lo : Int) + hi) = (s : Int) := by rw [show (lo : Int) + hi = (s : Int) by omega]; exact IntWalk.i64_in _ ⟨by omega, by omega⟩
      have hq : (s : Int).tdiv 2 = (m : Int) := by rw [Int.tdiv_eq_ediv_of_nonneg (by omega)]; omega
      have hwm : IntKind.i64.wrap (m : Int) = (m : Int) := IntWalk.i64_in _ ⟨by omega, by omega⟩
      have hw1 : IntKind.i64.wrap ((m : Int) + 1) = (m : Int) + 1 := IntWalk.i64_in _ ⟨by omega, by omega⟩
      have Hm := Lib.hid (show lo ≤ m ∧ m < hi from ⟨by omega, by omega⟩)
      have hck := (Hc.out m (by omega)).1
      have Hik := Lib.hid (Hc.out m (by omega)).2
      have hixm := Hix.out m
      have hmn : m < n := by omega
      clear hs hm
      obtain ⟨Y, hY⟩ : ∃ x, x = L.getD m [] := ⟨_, rfl⟩
      have HY := Lib.hid hY
      rw [← hY] at Hik
      obtain ⟨ya, yc, hys⟩ := ints_slice Hik.out
      rw [hys] at hck Hik
      obtain ⟨yn, hyn⟩ : ∃ x, x = Y.length := ⟨_, rfl⟩
      rw [← hyn] at hck Hik
      clear hys hY hyn
      go_wp2_with fail
      refine (before_any Y X _ _ _ Hik.out HX.out).mono ?_
      rintro e w1 ⟨rfl, rfl⟩
      by_cases hb : cmpL Y X < 0
      · rw [decide_eq_true hb]
        have HR := Lib.hid (show ∀ i, i < m + 1 → cmpL (L.getD i []) X < 0 from fun i hi => by
          rcases Nat.lt_or_ge i m with h | h
          · exact cmpL_trans (strict_at Hs.out h (by rw [← Hn.out]; exact hmn)) (by rw [← HY.out]; exact hb)
          · rw [show i = m by omega, ← HY.out]; exact hb)
        clear hck hb
        go_wp2_with fail
        go_roundw
        case rel => exact ⟨m + 1, hi, by go_num, rfl, by have := Hm.out; omega, hhn, by first | rfl | trivial, HR.out, Hhi.out⟩
        case measure => have := Hm.out; simp [intOf]; omega
      · rw [decide_eq_false hb]
        have HR := Lib.hid (show ∀ i, m ≤ i → i < n → 0 ≤ cmpL (L.getD i []) X from fun i h1 h2 => Int.not_lt.1 fun h3 => by
          rcases Nat.lt_or_ge m i with h | h
          · exact hb (by rw [HY.out]; exact cmpL_trans (strict_at Hs.out h (by rw [← Hn.out]; exact h2)) h3)
          · rw [show i = m by omega, ← HY.out] at h3; exact hb h3)
        clear hck hb
        go_wp2_with fail
        go_roundw
        case rel => exact ⟨lo, m, rfl, rfl, Hm.out.1, by omega, by first | rfl | trivial, Hlo.out, HR.out⟩
        case measure => have := Hm.out; simp [intOf]; omega
    · obtain rfl : lo = hi := by omega
      by_cases hn : lo < n
      · have hck := (Hc.out lo hn).1
        have Hik := Lib.hid (Hc.out lo hn).2
        have hixm := Hix.out lo
        obtain ⟨Y, hY⟩ : ∃ x, x = L.getD lo [] := ⟨_, rfl⟩
        have HY := Lib.hid hY
        rw [← hY] at Hik
        obtain ⟨ya, yc, hys⟩ := ints_slice Hik.out
        rw [hys] at hck Hik
        obtain ⟨yn, hyn⟩ : ∃ x, x = Y.length := ⟨_, rfl⟩
        rw [← hyn] at hck Hik
        clear hys hY hyn
        go_wp2_with fail
        refine (equalQ_any Y X _ _ _ Hik.out HX.out).mono ?_
        rintro e w1 ⟨rfl, rfl⟩
        by_cases he : Y = X
        · rw [decide_eq_true he]
          go_wp2_with fail
          go_ret
          exact ⟨a, n, cap, rfl, ⟨L, by have := HRows.out; exact this, Hs.out, fun z => ⟨.inl, fun h => h.elim id fun e => by rw [e, ← he, HY.out, List.getD_eq_getElem?_getD, List.getElem?_eq_getElem (by rw [← Hn.out]; exact hn)]; exact List.getElem_mem _⟩⟩, Below.refl _ _⟩
        · rw [decide_eq_false he]
          have HP := Lib.hid (putR_new Hs.out (k := lo) (by rw [← Hn.out]; omega) Hlo.out (fun i h1 h2 => Hhi.out i h1 (by rw [Hn.out]; exact h2)) (fun _ => by rw [← HY.out]; exact he))
          clear hck hixm he Hik HY
          go_upto_region 9 with fail
          obtain ⟨vs, hl, hRd, hI, hqs⟩ := HRows.out
          have HQs := Lib.hid hqs
          have HI := Lib.hid hI
          have Hvl := Lib.hid hl
          rw [← Hn.out] at hRd
          obtain ⟨u1, hp1, hs1⟩ := part_to (P := Try.prog) (t := 27) (k := lo) Try.underlying27 (by intro w; kernel_rfl) hRd hhn
          obtain ⟨u2, hp2, hs2⟩ := part_from (P := Try.prog) (t := 27) (k := lo) Try.underlying27 (by intro w; kernel_rfl) hRd hhn
          simp only [Nat.mul_one] at hs1 hs2
          have HS1 := Lib.hid hs1
          have HS2 := Lib.hid hs2
          have HO1 := Lib.hid (show ∀ u, u ∈ vs → u.oneCell' = true from fun u hu => by
            obtain ⟨i, hi, rfl⟩ := List.getElem_of_mem hu
            obtain ⟨_, _, h⟩ := ints_slice (hI i (by omega) hi)
            rw [h]; rfl)
          have HW0 := Lib.hid (show Below wr.heap.size wr wr.drew from (Below.refl _ _).drew)
          have HS0 := Lib.hid (trivial : True)
          clear hs1 hs2 hl hRd hI hqs
          refine wp_region_held (S := fun _ => True) wideK ?_
          change wpAnyH _ _ _ _ _ _ _ _ (World.drew _)
          generalize wr.drew = wd0 at *
          refine wpAnyH_take (i := 1) (v := ?_) rfl (by kernel_rfl) (by kernel_rfl) (by kernel_rfl) (fun _ _ _ h => h) (Or.inl ⟨by rfl, ?_⟩) HS0.out ?_
          rotate_left
          focus (intro w hS; clear hS; first | (go_simp; done) | (go_simp; with_reducible rfl))
          simp only [Act.put, List.getElem_toArray, List.getElem_cons_zero, List.getElem_cons_succ, List.setIfInBounds_toArray, List.set_cons_zero, List.set_cons_succ]
          refine wpAnyH_take (i := 2) (v := ?_) rfl (by kernel_rfl) (by kernel_rfl) (by kernel_rfl) (fun _ _ _ h => h) (Or.inl ⟨by rfl, ?_⟩) HS0.out ?_
          rotate_left
          focus (intro w hS; clear hS; first | (go_simp; done) | (go_simp; with_reducible rfl))
          simp only [Act.put, List.getElem_toArray, List.getElem_cons_zero, List.getElem_cons_succ, List.setIfInBounds_toArray, List.set_cons_zero, List.set_cons_succ]
          refine wpAnyH_take (i := 3) (v := ?_) rfl (by kernel_rfl) (by kernel_rfl) (by kernel_rfl) (fun _ _ _ h => h) (Or.inl ⟨by rfl, ?_⟩) HS0.out ?_
          rotate_left
          focus (intro w hS; clear hS; first | (go_simp; done) | (go_simp; with_reducible rfl))
          simp only [Act.put, List.getElem_toArray, List.getElem_cons_zero, List.getElem_cons_succ, List.setIfInBounds_toArray, List.set_cons_zero, List.set_cons_succ]
          refine wpAnyH_take (i := 5) (v := ?_) rfl (by kernel_rfl) (by kernel_rfl) (by kernel_rfl) (fun _ _ _ h => h) (Or.inl ⟨by rfl, ?_⟩) HS0.out ?_
          rotate_left
          focus (intro w hS; clear hS; first | (go_simp; done) | (go_simp; with_reducible rfl))
          simp only [Act.put, List.getElem_toArray, List.getElem_cons_zero, List.getElem_cons_succ, List.setIfInBounds_toArray, List.set_cons_zero, List.set_cons_succ]
          refine wpAnyH_take (i := 8) (v := ?_) rfl (by kernel_rfl) (by kernel_rfl) (by kernel_rfl) (fun _ _ _ h => h) (Or.inl ⟨by rfl, ?_⟩) HS0.out ?_
          rotate_left
          focus (intro w hS; clear hS; first | (go_simp; done) | (go_simp; with_reducible rfl))
          simp only [Act.put, List.getElem_toArray, List.getElem_cons_zero, List.getElem_cons_succ, List.setIfInBounds_toArray, List.set_cons_zero, List.set_cons_succ]
          refine wpAnyH_take (i := 9) (v := ?_) rfl (by kernel_rfl) (by kernel_rfl) (by kernel_rfl) (fun _ _ _ h => h) (Or.inl ⟨by rfl, ?_⟩) HS0.out ?_
          rotate_left
          focus (intro w hS; clear hS; first | (go_simp; done) | (go_simp; with_reducible rfl))
          simp only [Act.put, List.getElem_toArray, List.getElem_cons_zero, List.getElem_cons_succ, List.setIfInBounds_toArray, List.set_cons_zero, List.set_cons_succ]
          refine wpAnyH_take (i := 10) (v := ?_) rfl (by kernel_rfl) (by kernel_rfl) (by kernel_rfl) (fun _ _ _ h => h) (Or.inl ⟨by rfl, ?_⟩) HS0.out ?_
          rotate_left
          focus (intro w hS; clear hS; first | (go_simp; done) | (go_simp; with_reducible rfl))
          simp only [Act.put, List.getElem_toArray, List.getElem_cons_zero, List.getElem_cons_succ, List.setIfInBounds_toArray, List.set_cons_zero, List.set_cons_succ]
          refine wpAnyH_ready (rs := [0, 6]) (by kernel_rfl) (by simp) ?_
          refine RdyH.cons rfl (fun K2 hK => ?_) ?_
          · obtain ⟨wd1, hwd⟩ : ∃ x, x = wd0.alloc (.cells #[] 22) := ⟨_, rfl⟩
            have hb : Below wd0.heap.size wd0 wd1 := by rw [hwd]; exact below_alloc _ _
            obtain ⟨g0, hg0⟩ : ∃ x, x = wd0.heap.size := ⟨_, rfl⟩
            have HR := Lib.hid (show wd1.ownsRow wr.heap.size 22 1 (.slice (some ⟨g0, 0, none⟩) 0 0) 0 [] from by
              rw [hwd, hg0]; exact World.ownsRow_lit wd0 #[] 0 HW0.out.size (by unfold maxLen; omega) rfl)
            have HW1 := Lib.hid (Below.tr HW0.out hb)
            go_simp
            rw [← hwd, ← hg0]
            clear hb hwd hg0
            refine hK _ _ trivial ?_
            clear hK K2
            refine wpAnyH_ready (rs := [4, 6]) (by kernel_rfl) (by simp) ?_
            refine RdyH.cons rfl (fun K2 hK => ?_) ?_
            · refine step_append_src rfl (.tmp 39) (.tmp 42) 27 rfl elemRows rfl HR.out rfl (HS1.out.keep HW1.out) (fun u hu => HO1.out u (List.mem_of_mem_take hu)) (by omega) HW1.out.size ?_
              intro v1 wd2 h1 h2 hg
              have HR' := Lib.hid h1
              have HW2 := Lib.hid (HW1.out.trans h2)
              clear HR h1 h2 hg
              have HR := HR'
              clear HR'
              go_simp
              refine hK _ _ trivial ?_
              clear hK K2
              refine wpAnyH_ready (rs := [6]) (by kernel_rfl) (by simp) ?_
              refine RdyH.cons rfl (fun K2 hK => ?_) RdyH.nil
              obtain ⟨wd3, hwd⟩ : ∃ x, x = wd2.alloc (.cells #[.slice xa xn xc] 22) := ⟨_, rfl⟩
              have hb : Below wd2.heap.size wd2 wd3 := by rw [hwd]; exact below_alloc _ _
              obtain ⟨lb, hlb⟩ : ∃ x, x = wd2.heap.size := ⟨_, rfl⟩
              have HL := Lib.hid (show wd3.heap[lb]? = some (.cells #[.slice xa xn xc] 22 (0, 0)) from by rw [hwd, hlb]; exact heap_alloc_new _ _)
              have HR := Lib.hid (owns_keep HR.out hb)
              have HW3 := Lib.hid (Below.tr HW2.out hb)
              go_simp
              rw [← hwd, ← hlb]
              clear hb hwd hlb
              refine hK _ _ trivial ?_
              clear hK K2
              refine wpAnyH_ready (rs := [7]) (by kernel_rfl) (by simp) ?_
              refine RdyH.cons rfl (fun K2 hK => ?_) RdyH.nil
              refine step_append_src rfl (.tmp 43) (.tmp 45) 27 rfl elemRows rfl HR.out rfl (src_lit HL.out) (fun u hu => by rw [List.mem_singleton.1 hu]; rfl) (by omega) HW3.out.size ?_
              intro v2 wd4 h1 h2 hg
              have HR' := Lib.hid h1
              have HW4 := Lib.hid (HW3.out.trans h2)
              clear HR h1 h2 hg
              have HR := HR'
              clear HR'
              go_simp
              refine hK _ _ trivial ?_
              clear hK K2
              refine wpAnyH_ready (rs := [11]) (by kernel_rfl) (by simp) ?_
              refine RdyH.cons rfl (fun K2 hK => ?_) RdyH.nil
              refine step_append_src rfl (.tmp 46) (.tmp 49) 27 rfl elemRows rfl HR.out rfl (HS2.out.keep HW4.out) (fun u hu => HO1.out u (List.mem_of_mem_drop hu)) (by omega) HW4.out.size ?_
              intro v3 wd5 h1 h2 hg
              have HR' := Lib.hid h1
              have HW5 := Lib.hid (HW4.out.trans h2)
              clear HR h1 h2 hg
              have HR := HR'
              clear HR'
              go_simp
              refine hK _ _ trivial ?_
              clear hK K2
              refine wpAnyH_take (i := 12) (v := ?_) rfl (by kernel_rfl) (by kernel_rfl) (by kernel_rfl) (fun _ _ _ h => h) (Or.inl ⟨by rfl, ?_⟩) HS0.out ?_
              rotate_left
              focus (intro w hS; clear hS; first | (go_simp; done) | (go_simp; with_reducible rfl))
              simp only [Act.put, List.getElem_toArray, List.getElem_cons_zero, List.getElem_cons_succ, List.setIfInBounds_toArray, List.set_cons_zero, List.set_cons_succ]
              refine wpAnyH_done (by kernel_rfl) ?_ _
              clear hp1 hp2
              go_wp2_with fail
              go_ret
              exact put_endQ HR.out HW5.out Hvl.out HI.out HQs.out HQv.out HX.out HP.out Hn.out
            · refine RdyH.cons rfl (fun K2 hK => ?_) RdyH.nil
              obtain ⟨wd2, hwd⟩ : ∃ x, x = wd1.alloc (.cells #[.slice xa xn xc] 22) := ⟨_, rfl⟩
              have hb : Below wd1.heap.size wd1 wd2 := by rw [hwd]; exact below_alloc _ _
              obtain ⟨lb, hlb⟩ : ∃ x, x = wd1.heap.size := ⟨_, rfl⟩
              have HL := Lib.hid (show wd2.heap[lb]? = some (.cells #[.slice xa xn xc] 22 (0, 0)) from by rw [hwd, hlb]; exact heap_alloc_new _ _)
              have Hne := Lib.hid (show lb ≠ g0 from by rw [hlb]; exact Nat.ne_of_gt (own_lt HR.out rfl).2)
              have HR := Lib.hid (owns_keep HR.out hb)
              have HW2 := Lib.hid (Below.tr HW1.out hb)
              go_simp
              rw [← hwd, ← hlb]
              clear hb hwd hlb
              refine hK _ _ trivial ?_
              clear hK K2
              refine wpAnyH_ready (rs := [4]) (by kernel_rfl) (by simp) ?_
              refine RdyH.cons rfl (fun K2 hK => ?_) RdyH.nil
              refine step_append_src rfl (.tmp 39) (.tmp 42) 27 rfl elemRows rfl HR.out rfl (HS1.out.keep HW2.out) (fun u hu => HO1.out u (List.mem_of_mem_take hu)) (by omega) HW2.out.size ?_
              intro v1 wd3 h1 h2 hg
              have HR' := Lib.hid h1
              have HL := Lib.hid ((hg.block lb (Array.getElem?_eq_some_iff.1 HL.out).1 (fun e => Hne.out (Option.some.inj e))).trans HL.out)
              have HW3 := Lib.hid (HW2.out.trans h2)
              clear HR h1 h2 hg
              have HR := HR'
              clear HR'
              go_simp
              refine hK _ _ trivial ?_
              clear hK K2
              refine wpAnyH_ready (rs := [7]) (by kernel_rfl) (by simp) ?_
              refine RdyH.cons rfl (fun K2 hK => ?_) RdyH.nil
              refine step_append_src rfl (.tmp 43) (.tmp 45) 27 rfl elemRows rfl HR.out rfl (src_lit HL.out) (fun u hu => by rw [List.mem_singleton.1 hu]; rfl) (by omega) HW3.out.size ?_
              intro v2 wd4 h1 h2 hg
              have HR' := Lib.hid h1
              have HW4 := Lib.hid (HW3.out.trans h2)
              clear HR h1 h2 hg
              have HR := HR'
              clear HR'
              go_simp
              refine hK _ _ trivial ?_
              clear hK K2
              refine wpAnyH_ready (rs := [11]) (by kernel_rfl) (by simp) ?_
              refine RdyH.cons rfl (fun K2 hK => ?_) RdyH.nil
              refine step_append_src rfl (.tmp 46) (.tmp 49) 27 rfl elemRows rfl HR.out rfl (HS2.out.keep HW4.out) (fun u hu => HO1.out u (List.mem_of_mem_drop hu)) (by omega) HW4.out.size ?_
              intro v3 wd5 h1 h2 hg
              have HR' := Lib.hid h1
              have HW5 := Lib.hid (HW4.out.trans h2)
              clear HR h1 h2 hg
              have HR := HR'
              clear HR'
              go_simp
              refine hK _ _ trivial ?_
              clear hK K2
              refine wpAnyH_take (i := 12) (v := ?_) rfl (by kernel_rfl) (by kernel_rfl) (by kernel_rfl) (fun _ _ _ h => h) (Or.inl ⟨by rfl, ?_⟩) HS0.out ?_
              rotate_left
              focus (intro w hS; clear hS; first | (go_simp; done) | (go_simp; with_reducible rfl))
              simp only [Act.put, List.getElem_toArray, List.getElem_cons_zero, List.getElem_cons_succ, List.setIfInBounds_toArray, List.set_cons_zero, List.set_cons_succ]
              refine wpAnyH_done (by kernel_rfl) ?_ _
              clear hp1 hp2
              go_wp2_with fail
              go_ret
              exact put_endQ HR.out HW5.out Hvl.out HI.out HQs.out HQv.out HX.out HP.out Hn.out
          · refine RdyH.cons rfl (fun K2 hK => ?_) RdyH.nil
            obtain ⟨wd1, hwd⟩ : ∃ x, x = wd0.alloc (.cells #[.slice xa xn xc] 22) := ⟨_, rfl⟩
            have hb : Below wd0.heap.size wd0 wd1 := by rw [hwd]; exact below_alloc _ _
            obtain ⟨lb, hlb⟩ : ∃ x, x = wd0.heap.size := ⟨_, rfl⟩
            have HL := Lib.hid (show wd1.heap[lb]? = some (.cells #[.slice xa xn xc] 22 (0, 0)) from by rw [hwd, hlb]; exact heap_alloc_new _ _)
            have HW1 := Lib.hid (Below.tr HW0.out hb)
            go_simp
            rw [← hwd, ← hlb]
            clear hb hwd hlb
            refine hK _ _ trivial ?_
            clear hK K2
            refine wpAnyH_ready (rs := [0]) (by kernel_rfl) (by simp) ?_
            refine RdyH.cons rfl (fun K2 hK => ?_) RdyH.nil
            obtain ⟨wd2, hwd⟩ : ∃ x, x = wd1.alloc (.cells #[] 22) := ⟨_, rfl⟩
            have hb : Below wd1.heap.size wd1 wd2 := by rw [hwd]; exact below_alloc _ _
            obtain ⟨g0, hg0⟩ : ∃ x, x = wd1.heap.size := ⟨_, rfl⟩
            have HR := Lib.hid (show wd2.ownsRow wr.heap.size 22 1 (.slice (some ⟨g0, 0, none⟩) 0 0) 0 [] from by
              rw [hwd, hg0]; exact World.ownsRow_lit wd1 #[] 0 HW1.out.size (by unfold maxLen; omega) rfl)
            have Hne := Lib.hid (show lb ≠ g0 from by rw [hg0]; exact Nat.ne_of_lt (Array.getElem?_eq_some_iff.1 HL.out).1)
            have HL := Lib.hid (blk_keep2 HL.out hb)
            have HW2 := Lib.hid (Below.tr HW1.out hb)
            go_simp
            rw [← hwd, ← hg0]
            clear hb hwd hg0
            refine hK _ _ trivial ?_
            clear hK K2
            refine wpAnyH_ready (rs := [4]) (by kernel_rfl) (by simp) ?_
            refine RdyH.cons rfl (fun K2 hK => ?_) RdyH.nil
            refine step_append_src rfl (.tmp 39) (.tmp 42) 27 rfl elemRows rfl HR.out rfl (HS1.out.keep HW2.out) (fun u hu => HO1.out u (List.mem_of_mem_take hu)) (by omega) HW2.out.size ?_
            intro v1 wd3 h1 h2 hg
            have HR' := Lib.hid h1
            have HL := Lib.hid ((hg.block lb (Array.getElem?_eq_some_iff.1 HL.out).1 (fun e => Hne.out (Option.some.inj e))).trans HL.out)
            have HW3 := Lib.hid (HW2.out.trans h2)
            clear HR h1 h2 hg
            have HR := HR'
            clear HR'
            go_simp
            refine hK _ _ trivial ?_
            clear hK K2
            refine wpAnyH_ready (rs := [7]) (by kernel_rfl) (by simp) ?_
            refine RdyH.cons rfl (fun K2 hK => ?_) RdyH.nil
            refine step_append_src rfl (.tmp 43) (.tmp 45) 27 rfl elemRows rfl HR.out rfl (src_lit HL.out) (fun u hu => by rw [List.mem_singleton.1 hu]; rfl) (by omega) HW3.out.size ?_
            intro v2 wd4 h1 h2 hg
            have HR' := Lib.hid h1
            have HW4 := Lib.hid (HW3.out.trans h2)
            clear HR h1 h2 hg
            have HR := HR'
            clear HR'
            go_simp
            refine hK _ _ trivial ?_
            clear hK K2
            refine wpAnyH_ready (rs := [11]) (by kernel_rfl) (by simp) ?_
            refine RdyH.cons rfl (fun K2 hK => ?_) RdyH.nil
            refine step_append_src rfl (.tmp 46) (.tmp 49) 27 rfl elemRows rfl HR.out rfl (HS2.out.keep HW4.out) (fun u hu => HO1.out u (List.mem_of_mem_drop hu)) (by omega) HW4.out.size ?_
            intro v3 wd5 h1 h2 hg
            have HR' := Lib.hid h1
            have HW5 := Lib.hid (HW4.out.trans h2)
            clear HR h1 h2 hg
            have HR := HR'
            clear HR'
            go_simp
            refine hK _ _ trivial ?_
            clear hK K2
            refine wpAnyH_take (i := 12) (v := ?_) rfl (by kernel_rfl) (by kernel_rfl) (by kernel_rfl) (fun _ _ _ h => h) (Or.inl ⟨by rfl, ?_⟩) HS0.out ?_
            rotate_left
            focus (intro w hS; clear hS; first | (go_simp; done) | (go_simp; with_reducible rfl))
            simp only [Act.put, List.getElem_toArray, List.getElem_cons_zero, List.getElem_cons_succ, List.setIfInBounds_toArray, List.set_cons_zero, List.set_cons_succ]
            refine wpAnyH_done (by kernel_rfl) ?_ _
            clear hp1 hp2
            go_wp2_with fail
            go_ret
            exact put_endQ HR.out HW5.out Hvl.out HI.out HQs.out HQv.out HX.out HP.out Hn.out
      · have HP := Lib.hid (putR_new Hs.out (k := lo) (by rw [← Hn.out]; omega) Hlo.out (fun i h1 h2 => Hhi.out i h1 (by rw [Hn.out]; exact h2)) (fun h => by rw [← Hn.out] at h; exact absurd h hn))
        go_upto_region 9 with fail
        obtain ⟨vs, hl, hRd, hI, hqs⟩ := HRows.out
        have HQs := Lib.hid hqs
        have HI := Lib.hid hI
        have Hvl := Lib.hid hl
        rw [← Hn.out] at hRd
        obtain ⟨u1, hp1, hs1⟩ := part_to (P := Try.prog) (t := 27) (k := lo) Try.underlying27 (by intro w; kernel_rfl) hRd hhn
        obtain ⟨u2, hp2, hs2⟩ := part_from (P := Try.prog) (t := 27) (k := lo) Try.underlying27 (by intro w; kernel_rfl) hRd hhn
        simp only [Nat.mul_one] at hs1 hs2
        have HS1 := Lib.hid hs1
        have HS2 := Lib.hid hs2
        have HO1 := Lib.hid (show ∀ u, u ∈ vs → u.oneCell' = true from fun u hu => by
          obtain ⟨i, hi, rfl⟩ := List.getElem_of_mem hu
          obtain ⟨_, _, h⟩ := ints_slice (hI i (by omega) hi)
          rw [h]; rfl)
        have HW0 := Lib.hid (show Below wr.heap.size wr wr.drew from (Below.refl _ _).drew)
        have HS0 := Lib.hid (trivial : True)
        clear hs1 hs2 hl hRd hI hqs
        refine wp_region_held (S := fun _ => True) wideK ?_
        change wpAnyH _ _ _ _ _ _ _ _ (World.drew _)
        generalize wr.drew = wd0 at *
        refine wpAnyH_take (i := 1) (v := ?_) rfl (by kernel_rfl) (by kernel_rfl) (by kernel_rfl) (fun _ _ _ h => h) (Or.inl ⟨by rfl, ?_⟩) HS0.out ?_
        rotate_left
        focus (intro w hS; clear hS; first | (go_simp; done) | (go_simp; with_reducible rfl))
        simp only [Act.put, List.getElem_toArray, List.getElem_cons_zero, List.getElem_cons_succ, List.setIfInBounds_toArray, List.set_cons_zero, List.set_cons_succ]
        refine wpAnyH_take (i := 2) (v := ?_) rfl (by kernel_rfl) (by kernel_rfl) (by kernel_rfl) (fun _ _ _ h => h) (Or.inl ⟨by rfl, ?_⟩) HS0.out ?_
        rotate_left
        focus (intro w hS; clear hS; first | (go_simp; done) | (go_simp; with_reducible rfl))
        simp only [Act.put, List.getElem_toArray, List.getElem_cons_zero, List.getElem_cons_succ, List.setIfInBounds_toArray, List.set_cons_zero, List.set_cons_succ]
        refine wpAnyH_take (i := 3) (v := ?_) rfl (by kernel_rfl) (by kernel_rfl) (by kernel_rfl) (fun _ _ _ h => h) (Or.inl ⟨by rfl, ?_⟩) HS0.out ?_
        rotate_left
        focus (intro w hS; clear hS; first | (go_simp; done) | (go_simp; with_reducible rfl))
        simp only [Act.put, List.getElem_toArray, List.getElem_cons_zero, List.getElem_cons_succ, List.setIfInBounds_toArray, List.set_cons_zero, List.set_cons_succ]
        refine wpAnyH_take (i := 5) (v := ?_) rfl (by kernel_rfl) (by kernel_rfl) (by kernel_rfl) (fun _ _ _ h => h) (Or.inl ⟨by rfl, ?_⟩) HS0.out ?_
        rotate_left
        focus (intro w hS; clear hS; first | (go_simp; done) | (go_simp; with_reducible rfl))
        simp only [Act.put, List.getElem_toArray, List.getElem_cons_zero, List.getElem_cons_succ, List.setIfInBounds_toArray, List.set_cons_zero, List.set_cons_succ]
        refine wpAnyH_take (i := 8) (v := ?_) rfl (by kernel_rfl) (by kernel_rfl) (by kernel_rfl) (fun _ _ _ h => h) (Or.inl ⟨by rfl, ?_⟩) HS0.out ?_
        rotate_left
        focus (intro w hS; clear hS; first | (go_simp; done) | (go_simp; with_reducible rfl))
        simp only [Act.put, List.getElem_toArray, List.getElem_cons_zero, List.getElem_cons_succ, List.setIfInBounds_toArray, List.set_cons_zero, List.set_cons_succ]
        refine wpAnyH_take (i := 9) (v := ?_) rfl (by kernel_rfl) (by kernel_rfl) (by kernel_rfl) (fun _ _ _ h => h) (Or.inl ⟨by rfl, ?_⟩) HS0.out ?_
        rotate_left
        focus (intro w hS; clear hS; first | (go_simp; done) | (go_simp; with_reducible rfl))
        simp only [Act.put, List.getElem_toArray, List.getElem_cons_zero, List.getElem_cons_succ, List.setIfInBounds_toArray, List.set_cons_zero, List.set_cons_succ]
        refine wpAnyH_take (i := 10) (v := ?_) rfl (by kernel_rfl) (by kernel_rfl) (by kernel_rfl) (fun _ _ _ h => h) (Or.inl ⟨by rfl, ?_⟩) HS0.out ?_
        rotate_left
        focus (intro w hS; clear hS; first | (go_simp; done) | (go_simp; with_reducible rfl))
        simp only [Act.put, List.getElem_toArray, List.getElem_cons_zero, List.getElem_cons_succ, List.setIfInBounds_toArray, List.set_cons_zero, List.set_cons_succ]
        refine wpAnyH_ready (rs := [0, 6]) (by kernel_rfl) (by simp) ?_
        refine RdyH.cons rfl (fun K2 hK => ?_) ?_
        · obtain ⟨wd1, hwd⟩ : ∃ x, x = wd0.alloc (.cells #[] 22) := ⟨_, rfl⟩
          have hb : Below wd0.heap.size wd0 wd1 := by rw [hwd]; exact below_alloc _ _
          obtain ⟨g0, hg0⟩ : ∃ x, x = wd0.heap.size := ⟨_, rfl⟩
          have HR := Lib.hid (show wd1.ownsRow wr.heap.size 22 1 (.slice (some ⟨g0, 0, none⟩) 0 0) 0 [] from by
            rw [hwd, hg0]; exact World.ownsRow_lit wd0 #[] 0 HW0.out.size (by unfold maxLen; omega) rfl)
          have HW1 := Lib.hid (Below.tr HW0.out hb)
          go_simp
          rw [← hwd, ← hg0]
          clear hb hwd hg0
          refine hK _ _ trivial ?_
          clear hK K2
          refine wpAnyH_ready (rs := [4, 6]) (by kernel_rfl) (by simp) ?_
          refine RdyH.cons rfl (fun K2 hK => ?_) ?_
          · refine step_append_src rfl (.tmp 39) (.tmp 42) 27 rfl elemRows rfl HR.out rfl (HS1.out.keep HW1.out) (fun u hu => HO1.out u (List.mem_of_mem_take hu)) (by omega) HW1.out.size ?_
            intro v1 wd2 h1 h2 hg
            have HR' := Lib.hid h1
            have HW2 := Lib.hid (HW1.out.trans h2)
            clear HR h1 h2 hg
            have HR := HR'
            clear HR'
            go_simp
            refine hK _ _ trivial ?_
            clear hK K2
            refine wpAnyH_ready (rs := [6]) (by kernel_rfl) (by simp) ?_
            refine RdyH.cons rfl (fun K2 hK => ?_) RdyH.nil
            obtain ⟨wd3, hwd⟩ : ∃ x, x = wd2.alloc (.cells #[.slice xa xn xc] 22) := ⟨_, rfl⟩
            have hb : Below wd2.heap.size wd2 wd3 := by rw [hwd]; exact below_alloc _ _
            obtain ⟨lb, hlb⟩ : ∃ x, x = wd2.heap.size := ⟨_, rfl⟩
            have HL := Lib.hid (show wd3.heap[lb]? = some (.cells #[.slice xa xn xc] 22 (0, 0)) from by rw [hwd, hlb]; exact heap_alloc_new _ _)
            have HR := Lib.hid (owns_keep HR.out hb)
            have HW3 := Lib.hid (Below.tr HW2.out hb)
            go_simp
            rw [← hwd, ← hlb]
            clear hb hwd hlb
            refine hK _ _ trivial ?_
            clear hK K2
            refine wpAnyH_ready (rs := [7]) (by kernel_rfl) (by simp) ?_
            refine RdyH.cons rfl (fun K2 hK => ?_) RdyH.nil
            refine step_append_src rfl (.tmp 43) (.tmp 45) 27 rfl elemRows rfl HR.out rfl (src_lit HL.out) (fun u hu => by rw [List.mem_singleton.1 hu]; rfl) (by omega) HW3.out.size ?_
            intro v2 wd4 h1 h2 hg
            have HR' := Lib.hid h1
            have HW4 := Lib.hid (HW3.out.trans h2)
            clear HR h1 h2 hg
            have HR := HR'
            clear HR'
            go_simp
            refine hK _ _ trivial ?_
            clear hK K2
            refine wpAnyH_ready (rs := [11]) (by kernel_rfl) (by simp) ?_
            refine RdyH.cons rfl (fun K2 hK => ?_) RdyH.nil
            refine step_append_src rfl (.tmp 46) (.tmp 49) 27 rfl elemRows rfl HR.out rfl (HS2.out.keep HW4.out) (fun u hu => HO1.out u (List.mem_of_mem_drop hu)) (by omega) HW4.out.size ?_
            intro v3 wd5 h1 h2 hg
            have HR' := Lib.hid h1
            have HW5 := Lib.hid (HW4.out.trans h2)
            clear HR h1 h2 hg
            have HR := HR'
            clear HR'
            go_simp
            refine hK _ _ trivial ?_
            clear hK K2
            refine wpAnyH_take (i := 12) (v := ?_) rfl (by kernel_rfl) (by kernel_rfl) (by kernel_rfl) (fun _ _ _ h => h) (Or.inl ⟨by rfl, ?_⟩) HS0.out ?_
            rotate_left
            focus (intro w hS; clear hS; first | (go_simp; done) | (go_simp; with_reducible rfl))
            simp only [Act.put, List.getElem_toArray, List.getElem_cons_zero, List.getElem_cons_succ, List.setIfInBounds_toArray, List.set_cons_zero, List.set_cons_succ]
            refine wpAnyH_done (by kernel_rfl) ?_ _
            clear hp1 hp2
            go_wp2_with fail
            go_ret
            exact put_endQ HR.out HW5.out Hvl.out HI.out HQs.out HQv.out HX.out HP.out Hn.out
          · refine RdyH.cons rfl (fun K2 hK => ?_) RdyH.nil
            obtain ⟨wd2, hwd⟩ : ∃ x, x = wd1.alloc (.cells #[.slice xa xn xc] 22) := ⟨_, rfl⟩
            have hb : Below wd1.heap.size wd1 wd2 := by rw [hwd]; exact below_alloc _ _
            obtain ⟨lb, hlb⟩ : ∃ x, x = wd1.heap.size := ⟨_, rfl⟩
            have HL := Lib.hid (show wd2.heap[lb]? = some (.cells #[.slice xa xn xc] 22 (0, 0)) from by rw [hwd, hlb]; exact heap_alloc_new _ _)
            have Hne := Lib.hid (show lb ≠ g0 from by rw [hlb]; exact Nat.ne_of_gt (own_lt HR.out rfl).2)
            have HR := Lib.hid (owns_keep HR.out hb)
            have HW2 := Lib.hid (Below.tr HW1.out hb)
            go_simp
            rw [← hwd, ← hlb]
            clear hb hwd hlb
            refine hK _ _ trivial ?_
            clear hK K2
            refine wpAnyH_ready (rs := [4]) (by kernel_rfl) (by simp) ?_
            refine RdyH.cons rfl (fun K2 hK => ?_) RdyH.nil
            refine step_append_src rfl (.tmp 39) (.tmp 42) 27 rfl elemRows rfl HR.out rfl (HS1.out.keep HW2.out) (fun u hu => HO1.out u (List.mem_of_mem_take hu)) (by omega) HW2.out.size ?_
            intro v1 wd3 h1 h2 hg
            have HR' := Lib.hid h1
            have HL := Lib.hid ((hg.block lb (Array.getElem?_eq_some_iff.1 HL.out).1 (fun e => Hne.out (Option.some.inj e))).trans HL.out)
            have HW3 := Lib.hid (HW2.out.trans h2)
            clear HR h1 h2 hg
            have HR := HR'
            clear HR'
            go_simp
            refine hK _ _ trivial ?_
            clear hK K2
            refine wpAnyH_ready (rs := [7]) (by kernel_rfl) (by simp) ?_
            refine RdyH.cons rfl (fun K2 hK => ?_) RdyH.nil
            refine step_append_src rfl (.tmp 43) (.tmp 45) 27 rfl elemRows rfl HR.out rfl (src_lit HL.out) (fun u hu => by rw [List.mem_singleton.1 hu]; rfl) (by omega) HW3.out.size ?_
            intro v2 wd4 h1 h2 hg
            have HR' := Lib.hid h1
            have HW4 := Lib.hid (HW3.out.trans h2)
            clear HR h1 h2 hg
            have HR := HR'
            clear HR'
            go_simp
            refine hK _ _ trivial ?_
            clear hK K2
            refine wpAnyH_ready (rs := [11]) (by kernel_rfl) (by simp) ?_
            refine RdyH.cons rfl (fun K2 hK => ?_) RdyH.nil
            refine step_append_src rfl (.tmp 46) (.tmp 49) 27 rfl elemRows rfl HR.out rfl (HS2.out.keep HW4.out) (fun u hu => HO1.out u (List.mem_of_mem_drop hu)) (by omega) HW4.out.size ?_
            intro v3 wd5 h1 h2 hg
            have HR' := Lib.hid h1
            have HW5 := Lib.hid (HW4.out.trans h2)
            clear HR h1 h2 hg
            have HR := HR'
            clear HR'
            go_simp
            refine hK _ _ trivial ?_
            clear hK K2
            refine wpAnyH_take (i := 12) (v := ?_) rfl (by kernel_rfl) (by kernel_rfl) (by kernel_rfl) (fun _ _ _ h => h) (Or.inl ⟨by rfl, ?_⟩) HS0.out ?_
            rotate_left
            focus (intro w hS; clear hS; first | (go_simp; done) | (go_simp; with_reducible rfl))
            simp only [Act.put, List.getElem_toArray, List.getElem_cons_zero, List.getElem_cons_succ, List.setIfInBounds_toArray, List.set_cons_zero, List.set_cons_succ]
            refine wpAnyH_done (by kernel_rfl) ?_ _
            clear hp1 hp2
            go_wp2_with fail
            go_ret
            exact put_endQ HR.out HW5.out Hvl.out HI.out HQs.out HQv.out HX.out HP.out Hn.out
        · refine RdyH.cons rfl (fun K2 hK => ?_) RdyH.nil
          obtain ⟨wd1, hwd⟩ : ∃ x, x = wd0.alloc (.cells #[.slice xa xn xc] 22) := ⟨_, rfl⟩
          have hb : Below wd0.heap.size wd0 wd1 := by rw [hwd]; exact below_alloc _ _
          obtain ⟨lb, hlb⟩ : ∃ x, x = wd0.heap.size := ⟨_, rfl⟩
          have HL := Lib.hid (show wd1.heap[lb]? = some (.cells #[.slice xa xn xc] 22 (0, 0)) from by rw [hwd, hlb]; exact heap_alloc_new _ _)
          have HW1 := Lib.hid (Below.tr HW0.out hb)
          go_simp
          rw [← hwd, ← hlb]
          clear hb hwd hlb
          refine hK _ _ trivial ?_
          clear hK K2
          refine wpAnyH_ready (rs := [0]) (by kernel_rfl) (by simp) ?_
          refine RdyH.cons rfl (fun K2 hK => ?_) RdyH.nil
          obtain ⟨wd2, hwd⟩ : ∃ x, x = wd1.alloc (.cells #[] 22) := ⟨_, rfl⟩
          have hb : Below wd1.heap.size wd1 wd2 := by rw [hwd]; exact below_alloc _ _
          obtain ⟨g0, hg0⟩ : ∃ x, x = wd1.heap.size := ⟨_, rfl⟩
          have HR := Lib.hid (show wd2.ownsRow wr.heap.size 22 1 (.slice (some ⟨g0, 0, none⟩) 0 0) 0 [] from by
            rw [hwd, hg0]; exact World.ownsRow_lit wd1 #[] 0 HW1.out.size (by unfold maxLen; omega) rfl)
          have Hne := Lib.hid (show lb ≠ g0 from by rw [hg0]; exact Nat.ne_of_lt (Array.getElem?_eq_some_iff.1 HL.out).1)
          have HL := Lib.hid (blk_keep2 HL.out hb)
          have HW2 := Lib.hid (Below.tr HW1.out hb)
          go_simp
          rw [← hwd, ← hg0]
          clear hb hwd hg0
          refine hK _ _ trivial ?_
          clear hK K2
          refine wpAnyH_ready (rs := [4]) (by kernel_rfl) (by simp) ?_
          refine RdyH.cons rfl (fun K2 hK => ?_) RdyH.nil
          refine step_append_src rfl (.tmp 39) (.tmp 42) 27 rfl elemRows rfl HR.out rfl (HS1.out.keep HW2.out) (fun u hu => HO1.out u (List.mem_of_mem_take hu)) (by omega) HW2.out.size ?_
          intro v1 wd3 h1 h2 hg
          have HR' := Lib.hid h1
          have HL := Lib.hid ((hg.block lb (Array.getElem?_eq_some_iff.1 HL.out).1 (fun e => Hne.out (Option.some.inj e))).trans HL.out)
          have HW3 := Lib.hid (HW2.out.trans h2)
          clear HR h1 h2 hg
          have HR := HR'
          clear HR'
          go_simp
          refine hK _ _ trivial ?_
          clear hK K2
          refine wpAnyH_ready (rs := [7]) (by kernel_rfl) (by simp) ?_
          refine RdyH.cons rfl (fun K2 hK => ?_) RdyH.nil
          refine step_append_src rfl (.tmp 43) (.tmp 45) 27 rfl elemRows rfl HR.out rfl (src_lit HL.out) (fun u hu => by rw [List.mem_singleton.1 hu]; rfl) (by omega) HW3.out.size ?_
          intro v2 wd4 h1 h2 hg
          have HR' := Lib.hid h1
          have HW4 := Lib.hid (HW3.out.trans h2)
          clear HR h1 h2 hg
          have HR := HR'
          clear HR'
          go_simp
          refine hK _ _ trivial ?_
          clear hK K2
          refine wpAnyH_ready (rs := [11]) (by kernel_rfl) (by simp) ?_
          refine RdyH.cons rfl (fun K2 hK => ?_) RdyH.nil
          refine step_append_src rfl (.tmp 46) (.tmp 49) 27 rfl elemRows rfl HR.out rfl (HS2.out.keep HW4.out) (fun u hu => HO1.out u (List.mem_of_mem_drop hu)) (by omega) HW4.out.size ?_
          intro v3 wd5 h1 h2 hg
          have HR' := Lib.hid h1
          have HW5 := Lib.hid (HW4.out.trans h2)
          clear HR h1 h2 hg
          have HR := HR'
          clear HR'
          go_simp
          refine hK _ _ trivial ?_
          clear hK K2
          refine wpAnyH_take (i := 12) (v := ?_) rfl (by kernel_rfl) (by kernel_rfl) (by kernel_rfl) (fun _ _ _ h => h) (Or.inl ⟨by rfl, ?_⟩) HS0.out ?_
          rotate_left
          focus (intro w hS; clear hS; first | (go_simp; done) | (go_simp; with_reducible rfl))
          simp only [Act.put, List.getElem_toArray, List.getElem_cons_zero, List.getElem_cons_succ, List.setIfInBounds_toArray, List.set_cons_zero, List.set_cons_succ]
          refine wpAnyH_done (by kernel_rfl) ?_ _
          clear hp1 hp2
          go_wp2_with fail
          go_ret
          exact put_endQ HR.out HW5.out Hvl.out HI.out HQs.out HQv.out HX.out HP.out Hn.out
#print axioms put_anyQ
theorem off_of {g : Option Nat} {B : Nat} {a : Option Addr} {n k : Nat} {w : World} {L : List Int} (h : OwnInts B w (.slice a n k) L) (hg : ∀ b, g = some b → b < B) : Off g (.slice a n k) := fun ad m c e he => by
  rcases h.2 with ⟨e2, _⟩ | ⟨g', cap, cur, e2, hlt, _⟩
  · rw [e2] at e; cases e
  · rw [e2] at e
    injection e with e
    injection e with e
    have := hg _ he.symm
    rw [← e] at this
    have : g' < B := this
    omega
set_option maxRecDepth 100000 in
set_option maxHeartbeats 16000000 in
theorem reduceR_any {q : HQ} {l : List HAt} (v u : Value) (w : World) (hv : Qr w v q) (hu : Atoms w u l) :
    Calls Try.prog 47 #[v, u] w fun e w' => ∃ a n k c, e = .returned (.tuple #[.slice a n k, .int .i64 c]) ∧ RedRR q l w' (.slice a n k) c ∧ Below w.heap.size w w' := by
  obtain ⟨h0, b0, rfl, hh, hb⟩ := hv
  have Hq := Lib.hid (show Qr w (.agg #[h0, b0]) q from ⟨_, _, rfl, hh, hb⟩)
  have Hu := Lib.hid hu
  obtain ⟨a, b, off, cap, vs, rfl, hle, hia, hcap, hcs⟩ := Atoms.get hb
  obtain ⟨n1, hn1⟩ : ∃ x, x = q.2.length := ⟨_, rfl⟩
  rw [← hn1] at hia hcs Hq ⊢
  have Hix := Lib.hid (run_ix (P := Try.prog) (t := 23) (a := a) (len := n1) (cap := cap) (b := b) (off := off) (s := 2) Try.underlying23 (by intro w; kernel_rfl) hia)
  have Hc := Lib.hid hcs
  have Hn1 := Lib.hid hn1
  obtain ⟨w1, hw1⟩ : ∃ x, x = w.alloc (.cells #[h0, .slice a n1 cap] 25) := ⟨_, rfl⟩
  have hb1 : Below w.heap.size w w1 := by rw [hw1]; exact below_alloc _ _
  obtain ⟨bq, hbq⟩ : ∃ x, x = w.heap.size := ⟨_, rfl⟩
  have HB1 := Lib.hid (show Bx w1 bq h0 (.slice a n1 cap) from by rw [hw1, hbq]; exact heap_alloc_new _ _)
  have Hb1 := Lib.hid hb1
  have Hw1 := Lib.hid hw1
  have Hbq := Lib.hid hbq
  clear hh hb hu hw1 hb1 hbq hia hcs hcap hle hn1
  go_enter Try.func47, Try.ntmps47
  go_upto_region 1 with fail
  rw [← Hw1.out, ← Hbq.out]
  clear Hw1 Hbq
  have g0 := aCell HB1.out 0 rfl
  have g1 := aCell HB1.out 1 rfl
  by_cases hq : QrV q
  · have HV := Lib.hid (validQR_any q _ w1 (Hq.out.keep Hb1.out) true (decide_eq_true hq))
    go_wp2_with fail
    refine HV.out.mono ?_
    rintro e w2 ⟨rfl, hb⟩
    have HB2 := Lib.hid (HB1.out.keep hb)
    have Hb2 := Lib.hid (Below.tr Hb1.out hb)
    clear hb g0 g1 HV HB1 Hb1
    have g0 := aCell HB2.out 0 rfl
    have g1 := aCell HB2.out 1 rfl
    by_cases hl : FsV l
    · have HF := Lib.hid (factsR_any l _ w2 (Hu.out.keep Hb2.out) true (decide_eq_true hl))
      go_wp2_with fail
      refine HF.out.mono ?_
      rintro e w3 ⟨rfl, hb⟩
      have HB3 := Lib.hid (HB2.out.keep hb)
      have Hb3 := Lib.hid (Below.tr Hb2.out hb)
      clear hb g0 g1 HF HB2 Hb2
      have g0 := aCell HB3.out 0 rfl
      have g1 := aCell HB3.out 1 rfl
      have HM := Lib.hid (matchesU_any q l hq hl _ _ w3 (Hq.out.keep Hb3.out) (Hu.out.keep Hb3.out))
      go_wp2_with fail
      refine HM.out.mono ?_
      rintro e w4 ⟨na, nn, nk, N, c, rfl, ⟨hV, hnn, hN2, hN8, hcs⟩, hb⟩
      subst hnn
      have HB4 := Lib.hid (HB3.out.keep hb)
      have Hb4 := Lib.hid (Below.tr Hb3.out hb)
      have Hqv := Lib.hid hq
      have Hlv := Lib.hid hl
      have HN8 := Lib.hid hN8
      have HN2 := Lib.hid hN2
      have HV4 := Lib.hid hV
      clear hb g0 g1 HB3 Hb3 HM hN8 hN2 hq hl hV
      rcases hcs with ⟨k1, k2, rfl⟩ | ⟨k1, rfl, k3, k4⟩
      · have HC := Lib.hid (fun w' => show RedRR q l w' (.slice none 0 0) 3 from .inr (.inl ⟨Hqv.out, Hlv.out, k1, rfl, rfl⟩))
        clear k1 k2
        go_wp2_with fail
        go_ret2
        exact ⟨none, 0, 0, 3, rfl, HC.out _, Hb4.out⟩
      have HK1 := Lib.hid k1
      have HK4 := Lib.hid k4
      clear k1 k3 k4
      have hV := HV4.out
      obtain ⟨_, _, a2, b2, off2, cap2, e2, hia2, hc2⟩ := hV
      injection e2 with e1 e2 e3
      subst e1 e3
      have Hix2 := Lib.hid (run_ix (P := Try.prog) (t := 99) (a := na) (len := N.length) (cap := nk) (b := b2) (off := off2) (s := 8) Try.underlying99 (by intro w; kernel_rfl) hia2.1)
      have Hcv := Lib.hid (show ∀ m, m < N.length → ∀ j, j < 8 → w4.cell? ⟨b2, off2 + m * 8 + j, none⟩ = some (.int .i64 ((N.getD m []).getD j 0)) from fun m hm j hj => by
        have hlen : m * 8 + j < (cV N).length := by rw [cV_len HN8.out]; omega
        rw [Nat.add_assoc, hc2 _ hlen]
        have h1 := cV_at HN8.out hm hj
        rwa [List.getElem?_eq_getElem hlen] at h1)
      clear hia2 hc2 e2
      have hn5 : n1 ≤ 5 := by rw [Hn1.out]; exact Hqv.out.1.2.1
      have hNl : N.length ≤ 20000 := HN2.out
      have g1 := aCell HB4.out 1 rfl
      go_wp2_with fail
      clear g1
      go_loopw [8, 40] (fun vo vi wr => ∃ (i : Nat) (oa : Option Addr) (on ok : Nat) (P : List (List HAt)), vo = .slice oa on ok ∧ vi = .int .i64 i ∧ i ≤ n1 ∧ Below w4.heap.size w4 wr ∧ OutP w4.heap.size wr (.slice oa on ok) P ∧ P.length = i ∧ ∀ j, j < i → Part q l j (P.getD j [])) (fun _ vi _ => n1 - (intOf vi).toNat)
      case atStart => exact ⟨0, none, 0, 0, [], rfl, rfl, Nat.zero_le _, Below.refl _ _, outP_nil _ _, rfl, fun j hj => by omega⟩
      case round =>
        generalize wr = wx at *
        obtain ⟨i, oa, on, ok, P, rfl, rfl, hi, hb, hO, hP1, hP2⟩ := hrel
        have Hb := Lib.hid hb
        have HO := Lib.hid hO
        have HP1 := Lib.hid hP1
        have HP2 := Lib.hid hP2
        clear hb hO hP1 hP2
        by_cases hlt : i < n1
        · have hbw := Below.tr Hb4.out Hb.out
          have hc1 := Below.keep hbw (Hc.out i hlt).1
          have hc2 := Below.keep hbw (Hc.out i hlt).2.1
          have hai := Ints.keep (Hc.out i hlt).2.2 hbw
          have hixi := Hix.out i
          have hlt' : i < q.2.length := by rw [← Hn1.out]; exact hlt
          have HPart := Lib.hid (fun K (h : RowG (rowA (aR q.2 i) (aA q.2 i) N) N.length K) => part_of HK4.out h)
          have HVal := Lib.hid (show ∀ m, m < N.length → ∀ x, x ∈ aA q.2 i → 1 ≤ numOf (N.getD m []) x ∧ numOf (N.getD m []) x ≤ 99 from fun m hm x hx =>
            maP_val Hlv.out ((HK4.out _).1 (by rw [List.getD_eq_getElem?_getD, List.getElem?_eq_getElem hm]; exact List.getElem_mem hm)) hlt' hx)
          have HAt := Lib.hid (Hqv.out.2.1 i hlt')
          obtain ⟨r, hr⟩ : ∃ t, t = aR q.2 i := ⟨_, rfl⟩
          obtain ⟨A, hA⟩ : ∃ t, t = aA q.2 i := ⟨_, rfl⟩
          rw [← hr] at hc1 HPart HAt
          rw [← hA] at hai HPart HVal HAt
          clear hr hA hbw hlt'
          obtain ⟨a5, b5, off5, cap5, he5, _, hia5, hc5⟩ := Ints.get hai
          rw [he5] at hc2 hai
          clear he5
          obtain ⟨un, hun⟩ : ∃ x, x = A.length := ⟨_, rfl⟩
          have Hun := Lib.hid hun
          have Hc5 := Lib.hid (show ∀ k, k < un → wx.cell? ⟨b5, off5 + k, none⟩ = some (.int .i64 (A.getD k 0)) from fun k hk => by rw [hc5 k (by omega), List.getD_eq_getElem?_getD, List.getElem?_eq_getElem (by omega)]; rfl)
          rw [← hun] at hc2 hai hia5
          have Hix5 := Lib.hid (run_ix (P := Try.prog) (t := 22) (a := a5) (len := un) (cap := cap5) (b := b5) (off := off5) (s := 1) Try.underlying22 (by intro w; kernel_rfl) hia5)
          simp only [Nat.mul_one] at Hix5
          have hun3 : un ≤ 3 := by rw [hun]; exact HAt.out.2.1.2
          have HA1 := Lib.hid (show 1 ≤ A.length from HAt.out.2.1.1)
          obtain ⟨g, hg⟩ : ∃ g, g = (Value.slice oa on ok).ownBlock := ⟨_, rfl⟩
          have HGl := Lib.hid (show ∀ b, g = some b → b < wx.heap.size from fun b hb => by
            obtain ⟨vs, _, h2, _⟩ := HO.out
            exact (own_lt h2 (hg.symm.trans hb)).2)
          have Hg := Lib.hid hg
          obtain ⟨wa, hwa⟩ : ∃ x, x = wx.alloc (.cells #[.int .i64 r, .slice a5 un cap5] 80) := ⟨_, rfl⟩
          have hba : Below wx.heap.size wx wa := by rw [hwa]; exact below_alloc _ _
          obtain ⟨bA, hbA⟩ : ∃ x, x = wx.heap.size := ⟨_, rfl⟩
          have HAb := Lib.hid (show wa.heap[bA]? = some (.cells #[.int .i64 r, .slice a5 un cap5] 80 (0, 0)) from by rw [hwa, hbA]; exact heap_alloc_new _ _)
          have Hxa := Lib.hid hba
          have Hwa := Lib.hid hwa
          have HbA := Lib.hid hbA
          clear hai hun hia5 hc5 hwa hba hbA hg
          go_upto_region 10 with fail
          rw [← Hwa.out, ← HbA.out]
          clear Hwa HbA hc1 hc2 hixi
          go_wp2_with fail
          go_loopw [11, 46] (fun vk vi wy => ∃ (m : Nat) (ka : Option Addr) (kn kk : Nat) (K : List (List Int)), vk = .slice ka kn kk ∧ vi = .int .i64 m ∧ m ≤ N.length ∧ Below wa.heap.size wa wy ∧ RowsQ (Off g) wy (.slice ka kn kk) K ∧ RowG (rowA r A N) m K) (fun _ vi _ => N.length - (intOf vi).toNat)
          case atStart => exact ⟨0, none, 0, 0, [], rfl, rfl, Nat.zero_le _, Below.refl _ _, rowsQ_nil _ _, rowG_0 _⟩
          case round =>
            generalize wr = wy at *
            obtain ⟨m, ka, kn, kk, K, rfl, rfl, hm, hb, hR, hS⟩ := hrel
            have Hy := Lib.hid hb
            have HR := Lib.hid hR
            have HS := Lib.hid hS
            clear hb hR hS
            by_cases hlm : m < N.length
            · have h8 : (N.getD m []).length = 8 := HN8.out _ (by rw [List.getD_eq_getElem?_getD, List.getElem?_eq_getElem hlm]; exact List.getElem_mem hlm)
              have hixm := Hix2.out m
              have hcv := fun j hj => Below.keep (Below.tr Hb.out (Below.tr Hxa.out Hy.out)) (Hcv.out m hlm j hj)
              have HSt := Lib.hid (fun S (h : PutR K (rowA r A N m) S) => rowG_step HS.out h)
              have HVm := Lib.hid (HVal.out m hlm)
              have HRw := Lib.hid (show rowA r A N m = r :: A.map (numOf (N.getD m [])) from rfl)
              obtain ⟨v, hv⟩ : ∃ x, x = N.getD m [] := ⟨_, rfl⟩
              rw [← hv] at h8 hcv HVm HRw
              obtain ⟨x0, x1, x2, x3, x4, x5, x6, x7, hx⟩ := eq8 h8
              have d0 : wy.cell? ⟨b2, off2 + m * 8, none⟩ = some (.int .i64 x0) := by have := hcv 0 (by omega); rw [hx] at this; exact this
              have d1 : wy.cell? ⟨b2, off2 + m * 8 + 1, none⟩ = some (.int .i64 x1) := by have := hcv 1 (by omega); rw [hx] at this; exact this
              have d2 : wy.cell? ⟨b2, off2 + m * 8 + 2, none⟩ = some (.int .i64 x2) := by have := hcv 2 (by omega); rw [hx] at this; exact this
              have d3 : wy.cell? ⟨b2, off2 + m * 8 + 3, none⟩ = some (.int .i64 x3) := by have := hcv 3 (by omega); rw [hx] at this; exact this
              have d4 : wy.cell? ⟨b2, off2 + m * 8 + 4, none⟩ = some (.int .i64 x4) := by have := hcv 4 (by omega); rw [hx] at this; exact this
              have d5 : wy.cell? ⟨b2, off2 + m * 8 + 5, none⟩ = some (.int .i64 x5) := by have := hcv 5 (by omega); rw [hx] at this; exact this
              have d6 : wy.cell? ⟨b2, off2 + m * 8 + 6, none⟩ = some (.int .i64 x6) := by have := hcv 6 (by omega); rw [hx] at this; exact this
              have d7 : wy.cell? ⟨b2, off2 + m * 8 + 7, none⟩ = some (.int .i64 x7) := by have := hcv 7 (by omega); rw [hx] at this; exact this
              obtain ⟨wv, hwv⟩ : ∃ x, x = wy.alloc (.cells #[.int .i64 x0, .int .i64 x1, .int .i64 x2, .int .i64 x3, .int .i64 x4, .int .i64 x5, .int .i64 x6, .int .i64 x7] 94) := ⟨_, rfl⟩
              have hbv : Below wy.heap.size wy wv := by rw [hwv]; exact below_alloc _ _
              obtain ⟨bv, hbv2⟩ : ∃ x, x = wy.heap.size := ⟨_, rfl⟩
              have HVb := Lib.hid (show wv.heap[bv]? = some (.cells (vrow v) 94 (0, 0)) from by rw [hwv, hbv2, hx]; exact heap_alloc_new _ _)
              have Hyv := Lib.hid hbv
              have HAv := Lib.hid (blk_keep2 HAb.out (Below.tr Hy.out hbv))
              have Hwv := Lib.hid hwv
              have Hbv := Lib.hid hbv2
              have Hv8 := Lib.hid h8
              obtain ⟨wk, hwk⟩ : ∃ x, x = wv.alloc (.cells #[.int .i64 r] 3) := ⟨_, rfl⟩
              have hbk : Below wv.heap.size wv wk := by rw [hwk]; exact below_alloc _ _
              obtain ⟨bk, hbk2⟩ : ∃ x, x = wv.heap.size := ⟨_, rfl⟩
              have HKk := Lib.hid (show OwnInts wv.heap.size wk (.slice (some ⟨bk, 0, none⟩) 1 1) (r :: (A.take 0).map (numOf v)) from by
                rw [hwk, hbk2]; exact World.ownsRow_lit wv #[.int .i64 r] 1 (Nat.le_refl _) (by unfold maxLen; omega) rfl)
              have Hvk := Lib.hid hbk
              have Hwk := Lib.hid hwk
              have Hbk := Lib.hid hbk2
              clear hcv hv hx hwv hbv hbv2 h8 hwk hbk hbk2
              go_upto_region 14 with fail
              rw [← Hwv.out, ← Hbv.out]
              clear Hwv d0 d1 d2 d3 d4 d5 d6 d7 hixm
              have g0 := aCell HAv.out 0 rfl
              go_upto_region 15 with fail
              rw [← Hwk.out, ← Hbk.out]
              clear g0
              have g1 := aCell (blk_keep2 HAv.out Hvk.out) 1 rfl
              clear Hwk
              go_wp2_with fail
              clear g1
              go_loopw [14, 56] (fun vx vi wz => ∃ (j : Nat) (ya : Option Addr) (yn yk : Nat), vx = .slice ya yn yk ∧ vi = .int .i64 j ∧ j ≤ un ∧ Below wv.heap.size wv wz ∧ OwnInts wv.heap.size wz (.slice ya yn yk) (r :: (A.take j).map (numOf v))) (fun _ vi _ => un - (intOf vi).toNat)
              case atStart => exact ⟨0, _, _, _, rfl, rfl, Nat.zero_le _, Hvk.out, HKk.out⟩
              case round =>
                generalize wr = wz at *
                obtain ⟨j, ya, yn, yk, rfl, rfl, hj, hb, ho⟩ := hrel
                have Hz := Lib.hid hb
                have HOz := Lib.hid ho
                clear hb ho
                by_cases hlj : j < un
                · have hcj := Below.keep Hz.out (Below.keep Hyv.out (Below.keep Hy.out (Below.keep Hxa.out (Hc5.out j hlj))))
                  have hixj := Hix5.out j
                  have hlj' : j < A.length := by rw [← Hun.out]; exact hlj
                  have e : A.getD j 0 = A[j] := by rw [List.getD_eq_getElem?_getD, List.getElem?_eq_getElem hlj']; rfl
                  have HTj := Lib.hid (show r :: (A.take (j + 1)).map (numOf v) = (r :: (A.take j).map (numOf v)) ++ [numOf v (A.getD j 0)] from by rw [List.take_succ_eq_append_getElem hlj', List.map_append, e]; rfl)
                  have hr := (HAt.out.2.2 (A.getD j 0) (by rw [e]; exact List.getElem_mem hlj'))
                  have hZ1 := HVm.out (A.getD j 0) (by rw [e]; exact List.getElem_mem hlj')
                  obtain ⟨t, ht⟩ : ∃ t, t = A.getD j 0 := ⟨_, rfl⟩
                  rw [← ht] at hcj HTj hr hZ1
                  clear ht e hlj'
                  have hln : (r :: (A.take j).map (numOf v)).length + 1 ≤ 100000000000 := by rw [List.length_cons, List.length_map, List.length_take]; omega
                  by_cases c : 0 ≤ t
                  · obtain ⟨p, rfl⟩ : ∃ p : Nat, t = p := ⟨t.toNat, by omega⟩
                    have hZe : numOf v (p : Int) = v.getD p 0 := by unfold numOf; rw [if_pos c, Int.toNat_natCast]
                    have hp8 : (p : Int) < 8 := by omega
                    have hcp : wz.cell? ⟨bv, p, none⟩ = some (.int .i64 (v.getD p 0)) := by
                      refine Below.keep Hz.out ?_
                      rw [cell_of_row wv bv p _ _ _ HVb.out]
                      exact vrow_at (by rw [Hv8.out]; omega)
                    rw [← hZe] at hcp
                    obtain ⟨Z, hZ⟩ : ∃ Z, Z = numOf v (p : Int) := ⟨_, rfl⟩
                    rw [← hZ] at HTj hZ1 hcp
                    have hz1 : IntKind.i64.wrap (-Z) = -Z := IntWalk.i64_in _ ⟨by omega, by omega⟩
                    have hz2 : IntKind.i64.wrap (-(-Z)) = Z := by rw [Int.neg_neg]; exact IntWalk.i64_in _ ⟨by omega, by omega⟩
                    have hz3 : IntKind.i64.wrap Z = Z := IntWalk.i64_in _ ⟨by omega, by omega⟩
                    obtain ⟨w7, hw7⟩ : ∃ x, x = wz.alloc (.cells #[.int .i64 Z] 3) := ⟨_, rfl⟩
                    have hb : Below wz.heap.size wz w7 := by rw [hw7]; exact below_alloc _ _
                    obtain ⟨bl, hbl⟩ : ∃ x, x = wz.heap.size := ⟨_, rfl⟩
                    have HL := Lib.hid (show w7.heap[bl]? = some (.cells #[.int .i64 Z] 3 (0, 0)) from by rw [hw7, hbl]; exact heap_alloc_new _ _)
                    have HO7 := Lib.hid (HOz.out.keep hb)
                    have Hz7 := Lib.hid (Below.tr Hz.out hb)
                    have Hw7 := Lib.hid hw7
                    have Hbl := Lib.hid hbl
                    clear hw7 hb hbl HOz Hz hZ hZe hr hZ1
                    go_wp2_with (first | (at_builtin; rw [← Hw7.out, ← Hbl.out]; refine append_own rfl (.tmp 66) (.tmp 69) 22 rfl elemInts rfl HO7.out (m := 1) [.int .i64 Z] rfl rfl (fun k y hk => aCell HL.out k (by simpa using hk)) (ints_oneCell [Z]) hln Hz7.out.size ?_; intro v9 w9 h91 h92 h93))
                    have HO9 := Lib.hid (show OwnInts wv.heap.size w9 v9 (r :: (A.take (j + 1)).map (numOf v)) from by
                      rw [HTj.out]
                      exact OwnInts.snoc h91)
                    have Hz9 := Lib.hid (Hz7.out.trans h92)
                    obtain ⟨pa, pn, pk, rfl⟩ := own_slice HO9.out
                    clear h91 h92 h93 hcp hcj hixj hln
                    go_wp2_with fail
                    go_roundw
                    case rel => exact ⟨j + 1, pa, pn, pk, rfl, by go_num, by omega, Hz9.out, HO9.out⟩
                    case measure => simp [intOf]; omega
                  · have hZe : numOf v t = -t := by unfold numOf; rw [if_neg c]
                    obtain ⟨Z, hZ⟩ : ∃ Z, Z = numOf v t := ⟨_, rfl⟩
                    rw [← hZ] at HTj hZ1 hZe
                    have hz1 : IntKind.i64.wrap (-t) = Z := by rw [← hZe]; exact IntWalk.i64_in _ ⟨by omega, by omega⟩
                    obtain ⟨w7, hw7⟩ : ∃ x, x = wz.alloc (.cells #[.int .i64 Z] 3) := ⟨_, rfl⟩
                    have hb : Below wz.heap.size wz w7 := by rw [hw7]; exact below_alloc _ _
                    obtain ⟨bl, hbl⟩ : ∃ x, x = wz.heap.size := ⟨_, rfl⟩
                    have HL := Lib.hid (show w7.heap[bl]? = some (.cells #[.int .i64 Z] 3 (0, 0)) from by rw [hw7, hbl]; exact heap_alloc_new _ _)
                    have HO7 := Lib.hid (HOz.out.keep hb)
                    have Hz7 := Lib.hid (Below.tr Hz.out hb)
                    have Hw7 := Lib.hid hw7
                    have Hbl := Lib.hid hbl
                    clear hw7 hb hbl HOz Hz hZ hZe hr hZ1
                    go_wp2_with (first | (at_builtin; rw [← Hw7.out, ← Hbl.out]; refine append_own rfl (.tmp 66) (.tmp 69) 22 rfl elemInts rfl HO7.out (m := 1) [.int .i64 Z] rfl rfl (fun k y hk => aCell HL.out k (by simpa using hk)) (ints_oneCell [Z]) hln Hz7.out.size ?_; intro v9 w9 h91 h92 h93))
                    have HO9 := Lib.hid (show OwnInts wv.heap.size w9 v9 (r :: (A.take (j + 1)).map (numOf v)) from by
                      rw [HTj.out]
                      exact OwnInts.snoc h91)
                    have Hz9 := Lib.hid (Hz7.out.trans h92)
                    obtain ⟨pa, pn, pk, rfl⟩ := own_slice HO9.out
                    clear h91 h92 h93 hcj hixj hln
                    go_wp2_with fail
                    go_roundw
                    case rel => exact ⟨j + 1, pa, pn, pk, rfl, by go_num, by omega, Hz9.out, HO9.out⟩
                    case measure => simp [intOf]; omega
                · obtain rfl : j = un := by omega
                  have HX := Lib.hid (show OwnInts wv.heap.size wz (.slice ya yn yk) (rowA r A N m) from by
                    have := HOz.out
                    rw [Hun.out, List.take_length] at this
                    rw [HRw.out]; exact this)
                  have Hyz := Lib.hid (Below.tr Hyv.out Hz.out)
                  have HOf := Lib.hid (off_of (g := g) HX.out (fun b hb => Nat.lt_of_lt_of_le (HGl.out b hb) (Nat.le_trans Hxa.out.size (Nat.le_trans Hy.out.size Hyv.out.size))))
                  have HR6 := Lib.hid (HR.out.keep Hyz.out)
                  have HPt := Lib.hid (put_anyQ (Off g) K (rowA r A N m) HS.out.1 (by have := rowG_len HS.out; omega) _ _ wz HR6.out HX.out.ints HOf.out)
                  clear HOz
                  go_wp2_with fail
                  refine HPt.out.mono ?_
                  rintro e w9 ⟨pa, pn, pk, rfl, ⟨S, hS, hP⟩, hb⟩
                  have HS9 := Lib.hid hS
                  have HP9 := Lib.hid (HSt.out S hP)
                  have Hb9 := Lib.hid (Below.tr Hy.out (Below.tr Hyz.out hb))
                  clear hS hP hb
                  go_wp2_with fail
                  go_roundw
                  case rel => exact ⟨m + 1, pa, pn, pk, S, rfl, by go_num, by omega, Hb9.out, HS9.out, HP9.out⟩
                  case measure => simp [intOf]; omega
            · obtain rfl : m = N.length := by omega
              have HPt := Lib.hid (HPart.out K HS.out)
              have HKr := Lib.hid (show ∀ k, k < K.length → ∃ r' A', K.getD k [] = r' :: A' ∧ 1 ≤ A'.length ∧ (fsK K).getD k (0, []) = (r', A') from fun k hk => by
                obtain ⟨j, hj, e⟩ := (HS.out.2 (K.getD k [])).1 (by rw [List.getD_eq_getElem?_getD, List.getElem?_eq_getElem hk]; exact List.getElem_mem hk)
                exact ⟨r, A.map (numOf (N.getD j [])), e, by rw [List.length_map]; exact HA1.out, by rw [fsK_at hk, e]; rfl⟩)
              obtain ⟨vs4, q1, ⟨_, q2, a4, b4, off4, cap4, q3, q4, q5⟩, q6, q7⟩ := HR.out
              injection q3 with e1 e2 e3
              subst e1 e2 e3
              have Hix4 := Lib.hid (run_ix (P := Try.prog) (t := 27) (a := ka) (len := K.length) (cap := kk) (b := b4) (off := off4) (s := 1) Try.underlying27 (by intro w; kernel_rfl) q4.1)
              simp only [Nat.mul_one] at Hix4
              have Hc4 := Lib.hid (show ∀ i, i < K.length → wy.cell? ⟨b4, off4 + i, none⟩ = some (vs4.getD i (.bool false)) ∧ Ints wy (vs4.getD i (.bool false)) (K.getD i []) ∧ Off g (vs4.getD i (.bool false)) from fun i hi => by
                have hi' : i < vs4.length := by omega
                rw [List.getD_eq_getElem?_getD, List.getElem?_eq_getElem hi', List.getD_eq_getElem?_getD, List.getElem?_eq_getElem hi]
                exact ⟨q5 i hi', q6 i hi hi', q7 _ (List.getElem_mem hi')⟩)
              have hKl : K.length ≤ 20000 := Nat.le_trans (rowG_len HS.out) hNl
              obtain ⟨kl, hkl⟩ : ∃ x, x = K.length := ⟨_, rfl⟩
              have Hkl := Lib.hid hkl
              rw [← hkl] at Hix4 Hc4 HKr hKl ⊢
              clear q1 q2 q4 q5 q6 q7 HR hkl
              go_wp2_with fail
              go_loopw [17, 78] (fun vx vi wz => ∃ (k : Nat) (sa : Option Addr) (sn sk : Nat), vx = .slice sa sn sk ∧ vi = .int .i64 k ∧ k ≤ kl ∧ Below wy.heap.size wy wz ∧ SubO wy g wy.heap.size wz (.slice sa sn sk) ((fsK K).take k)) (fun _ vi _ => kl - (intOf vi).toNat)
              case atStart => exact ⟨0, none, 0, 0, rfl, rfl, Nat.zero_le _, Below.refl _ _, subO_nil _ _ _ _⟩
              case round =>
                generalize wr = wz at *
                obtain ⟨k, sa, sn, sk, rfl, rfl, hk, hb, ho⟩ := hrel
                have Hz := Lib.hid hb
                have HOz := Lib.hid ho
                clear hb ho
                by_cases hlk : k < kl
                · have hck := Below.keep Hz.out (Hc4.out k hlk).1
                  have Hik := Lib.hid (Hc4.out k hlk).2.1
                  have Hof := Lib.hid (Hc4.out k hlk).2.2
                  have hixk := Hix4.out k
                  obtain ⟨r', A', hKz, hA3, hFj⟩ := HKr.out k hlk
                  have HFs := Lib.hid (show (fsK K).take (k + 1) = (fsK K).take k ++ [(r', A')] from by
                    have hl : k < (fsK K).length := by unfold fsK; rw [List.length_map, ← Hkl.out]; exact hlk
                    rw [List.take_succ_eq_append_getElem hl, ← hFj, List.getD_eq_getElem?_getD, List.getElem?_eq_getElem hl]; rfl)
                  rw [hKz] at Hik
                  obtain ⟨za, zc, hz⟩ := ints_slice Hik.out
                  obtain ⟨zn, hzn⟩ : ∃ x, x = (r' :: A').length := ⟨_, rfl⟩
                  rw [hz, ← hzn] at hck Hof
                  have Hik := Lib.hid (show Ints wy (.slice za zn zc) (r' :: A') from by rw [hzn, ← hz]; exact Hik.out)
                  clear hz hzn hKz hFj
                  obtain ⟨b6, off6, rfl, hc6, hti, hz0, hz1, hzc⟩ := tail_slice Hik.out hA3
                  have hc6 := Below.keep Hz.out hc6
                  have hixz := run_ix (P := Try.prog) (t := 22) (a := some ⟨b6, off6, none⟩) (len := zn) (cap := zc) (b := b6) (off := off6) (s := 1) Try.underlying22 (by intro w; kernel_rfl) (fun _ => rfl)
                  have hix0 := fun w => hixz 0 w hz0
                  simp only [Nat.zero_mul, Nat.add_zero] at hix0
                  have HTz := Lib.hid hti
                  have HTo := Lib.hid (show Off g (.slice (some ⟨b6, off6 + 1, none⟩) (zn - 1) (zc - 1)) from fun ad m c e => by
                    injection e with e
                    injection e with e
                    rw [← e]
                    exact Hof.out ⟨b6, off6, none⟩ zn zc rfl)
                  have HWz := Lib.hid (show Below wy.heap.size wy wz.drew from Hz.out.drew)
                  clear hti hixz hA3
                  go_upto_region 28 with fail
                  clear hck hixk
                  try simp only [Act.put]
                  obtain ⟨vs, s1, s2, s3⟩ := HOz.out
                  have hl : ((fsK K).take k).length ≤ 20000 := by rw [List.length_take]; omega
                  have Hs1 := Lib.hid s1
                  have Hs3 := Lib.hid s3
                  obtain ⟨ln, hln⟩ : ∃ x, x = ((fsK K).take k).length := ⟨_, rfl⟩
                  have Hln := Lib.hid hln
                  rw [← hln] at s2 hl
                  have HO := Lib.hid s2
                  clear s1 s2 s3 hln
                  go_region_law (refine step_append_own (by rfl) (.tmp 82) (.tmp 89) 26 (by rfl) elemFacts (by rfl) (World.ownsRow.alloc (World.ownsRow.drew HO.out) _) [.int .i64 r', .slice (some ⟨b6, off6 + 1, none⟩) (zn - 1) (zc - 1)] (by rfl) (by rfl) (by intro q u hq; go_simp) (by intro u hu; simp at hu; rcases hu with rfl | rfl <;> rfl) (by omega) (by have := Hz.out.size; simp; omega) ?_; intro v' w7 hown7 hb7)
                  all_goals (
                    have HB7 := Lib.hid ((HWz.out.alloc (by have := Hz.out.size; simp; omega) _).trans hb7)
                    have HO7 := Lib.hid (show SubO wy g wy.heap.size w7 v' ((fsK K).take (k + 1)) from by
                      rw [HFs.out]
                      rw [Hln.out] at hown7
                      exact SubO.snoc Hs1.out Hs3.out HTz.out HTo.out hown7)
                    obtain ⟨pa, pn, pk, rfl⟩ := HO7.out.slice
                    clear hown7 hb7 hc6 hix0 hz1 hzc hz0
                    go_wp2_with fail
                    go_roundw
                    case rel => exact ⟨k + 1, pa, pn, pk, rfl, by go_num, by omega, HB7.out, HO7.out⟩
                    case measure => simp [intOf]; omega)
                · obtain rfl : k = kl := by omega
                  obtain ⟨wl, hwl⟩ : ∃ x, x = wz.alloc (.cells #[.slice sa sn sk] 26) := ⟨_, rfl⟩
                  have hb : Below wz.heap.size wz wl := by rw [hwl]; exact below_alloc _ _
                  obtain ⟨bl, hbl⟩ : ∃ x, x = wz.heap.size := ⟨_, rfl⟩
                  have HL := Lib.hid (show wl.heap[bl]? = some (.cells #[.slice sa sn sk] 26 (0, 0)) from by rw [hwl, hbl]; exact heap_alloc_new _ _)
                  have hxy := Below.tr Hxa.out Hy.out
                  have hxz := Below.tr hxy Hz.out
                  have hxl := Below.tr hxz hb
                  have HF := Lib.hid (show Firm wl g (.slice sa sn sk) (fsK K) from by
                    have h1 := (HOz.out.firm Hz.out (fun b hb => Nat.lt_of_lt_of_le (HGl.out b hb) hxy.size)).keep hb
                    rwa [List.take_of_length_le (by unfold fsK; rw [List.length_map, ← Hkl.out]; exact Nat.le_refl _)] at h1)
                  obtain ⟨vs, s1, s2, s3⟩ := HO.out.keep hxl
                  have Hs1 := Lib.hid s1
                  have Hs3 := Lib.hid s3
                  have HO9 := Lib.hid s2
                  have Hbl := Lib.hid (Below.tr Hb.out hxl)
                  have Hwl := Lib.hid hwl
                  have Hbe := Lib.hid hbl
                  have hPl : P.length ≤ 1000000 := by rw [HP1.out]; omega
                  clear hwl hb hbl hxy hxz hxl s1 s2 s3
                  go_wp2_with (first | (at_builtin; rw [← Hwl.out, ← Hbe.out]; refine append_at rfl (.tmp 92) (.tmp 94) 66 rfl elemPts rfl HO9.out (news := [.slice sa sn sk]) rfl rfl (fun k y hk => aCell HL.out k (by simpa using hk)) (fun u hu => by rw [List.mem_singleton.1 hu]; rfl) hPl Hbl.out.size ?_; intro v9 w9 h91 h92 h93 h94))
                  have HN9 := Lib.hid (show OutP w4.heap.size w9 v9 (P ++ [fsK K]) from OutP.snoc Hs1.out Hs3.out (Hg.out ▸ HF.out) h91 h93 h94)
                  have HW9 := Lib.hid (Hbl.out.trans h92)
                  have HP9 := Lib.hid (show ∀ j, j < i + 1 → Part q l j ((P ++ [fsK K]).getD j []) from fun j hj => by
                    have hp := HP1.out
                    by_cases e : j < i
                    · rw [List.getD_eq_getElem?_getD, List.getElem?_append_left (by omega), ← List.getD_eq_getElem?_getD]
                      exact HP2.out j e
                    · obtain rfl : j = i := by omega
                      rw [List.getD_eq_getElem?_getD, List.getElem?_append_right (by omega), hp, Nat.sub_self]
                      exact HPt.out)
                  have HL9 := Lib.hid (show (P ++ [fsK K]).length = i + 1 from by rw [List.length_append, HP1.out]; rfl)
                  obtain ⟨pa, pn, pk, rfl⟩ : ∃ a n k, v9 = .slice a n k := by
                    obtain ⟨_, _, h, _⟩ := HN9.out
                    exact row_slice h
                  clear h91 h92 h93 h94 hPl
                  go_wp2_with fail
                  go_roundw
                  case rel => exact ⟨i + 1, pa, pn, pk, P ++ [fsK K], rfl, by go_num, by omega, HW9.out, HN9.out, HL9.out, HP9.out⟩
                  case measure => simp [intOf]; omega
        · obtain rfl : i = n1 := by omega
          have HE := Lib.hid (show RedRR q l wx (.slice oa on ok) 0 from .inr (.inr ⟨Hqv.out, Hlv.out, HK1.out, rfl, P, HO.out.pts, by rw [HP1.out, Hn1.out], fun j hj => HP2.out j (by rw [Hn1.out]; exact hj)⟩))
          have Hw := Lib.hid (Below.tr Hb4.out Hb.out)
          go_wp2_with fail
          go_ret2
          exact ⟨oa, on, ok, 0, rfl, HE.out, Hw.out⟩
    · have HF := Lib.hid (factsR_any l _ w2 (Hu.out.keep Hb2.out) false (decide_eq_false hl))
      have HC := Lib.hid (fun w' => show RedRR q l w' (.slice none 0 0) 2 from .inl ⟨fun h => hl h.2, rfl, rfl⟩)
      go_wp2_with fail
      refine HF.out.mono ?_
      rintro e w3 ⟨rfl, hb⟩
      have Hb3 := Lib.hid (Below.tr Hb2.out hb)
      clear hb g0 g1
      go_wp2_with fail
      go_ret2
      exact ⟨none, 0, 0, 2, rfl, HC.out _, Hb3.out⟩
  · have HV := Lib.hid (validQR_any q _ w1 (Hq.out.keep Hb1.out) false (decide_eq_false hq))
    have HC := Lib.hid (fun w' => show RedRR q l w' (.slice none 0 0) 2 from .inl ⟨fun h => hq h.1, rfl, rfl⟩)
    go_wp2_with fail
    refine HV.out.mono ?_
    rintro e w2 ⟨rfl, hb⟩
    have Hb2 := Lib.hid (Below.tr Hb1.out hb)
    clear hb g0 g1
    go_wp2_with fail
    go_ret2
    exact ⟨none, 0, 0, 2, rfl, HC.out _, Hb2.out⟩
#print axioms reduceR_any
end Go.Proofs.Ytfplmdieeabgpaa

/- Contracts of Absent and the reference's Absent. -/
import Derived.Test.YtbnlkmblkokooaaLet
import Derived.Deep.LoopGhost
namespace Go.Proofs.Ytbnlkmblkokooaa
open Go.RowKit

/-- a slice of strings -/
def Strs (w : World) (v : Value) (l : List Bs) : Prop := Rd w v 1 l.length (l.map strV)
def OwnStrs (base : Nat) (w : World) (v : Value) (l : List Bs) : Prop := w.ownsRow base 9 1 v l.length (l.map strV)
theorem OwnStrs.strs {base : Nat} {w : World} {v : Value} {l : List Bs} (h : OwnStrs base w v l) : Strs w v l := by
  have := owns_rd h
  simpa [Strs] using this
theorem Strs.keep {w w' : World} {v : Value} {l : List Bs} (h : Strs w v l) (hb : Below w.heap.size w w') : Strs w' v l := Rd.keep h hb
theorem Strs.get {w : World} {v : Value} {l : List Bs} (h : Strs w v l) : ∃ a b off cap, v = .slice a l.length cap ∧ l.length ≤ 9223372036854775807 ∧ (0 < l.length → a = some ⟨b, off, none⟩) ∧
    ∀ i, i < l.length → w.cell? ⟨b, off + i, none⟩ = some (strV (l.getD i [])) := by
  obtain ⟨h1, h2, a, b, off, cap, h3, h4, h5⟩ := h
  exact ⟨a, b, off, cap, h3, h2, h4.1, fun i hi => by have := h5 i (by simpa using hi); rw [List.getElem_map] at this; rw [this]; simp [List.getD, hi]⟩
theorem OwnStrs.snoc {base : Nat} {w : World} {v : Value} {l : List Bs} {x : Bs} (h : w.ownsRow base 9 1 v (l.length + 1) (l.map strV ++ [strV x])) : OwnStrs base w v (l ++ [x]) := by
  unfold OwnStrs; simpa using h
theorem ownStrs_nil (base : Nat) (w : World) : OwnStrs base w (.slice none 0 0) [] := World.ownsRow_nil _ _ _ _
theorem utf_one (x : UInt8) (h : x.toNat ≤ 126) : Utf8.encode (x.toNat : Int) = ⟨#[x]⟩ := by
  have hv : Utf8.valid (x.toNat : Int) = true := by unfold Utf8.valid; simp; omega
  unfold Utf8.encode
  simp only [hv, if_true, Int.toNat_natCast]
  rw [if_pos (by omega)]
  simp
theorem utf_bs (x : UInt8) (h : x.toNat ≤ 126) (s : ByteArray) : bs (s ++ Utf8.encode (x.toNat : Int)) = bs s ++ [x] := by
  rw [utf_one x h, bs_app]; rfl
theorem sorted_nodup : ∀ {l : Bs}, (∀ i (h : i + 1 < l.length), l[i].toNat < l[i + 1].toNat) → l.Nodup
  | [], _ => List.nodup_nil
  | [_], _ => by simp
  | a :: b :: l, h => by
    have ih := sorted_nodup (l := b :: l) fun i hi => by
      have := h (i + 1) (by simpa using hi)
      simpa using this
    have key : ∀ {m : Bs} {a : UInt8}, (∀ i (h : i + 1 < (a :: m).length), (a :: m)[i].toNat < (a :: m)[i + 1].toNat) → ∀ x ∈ m, a.toNat < x.toNat := by
      intro m
      induction m with
      | nil => intro a _ x hx; cases hx
      | cons c m ihm =>
        intro a h x hx
        have h0 := h 0 (by simp)
        simp only [List.getElem_cons_zero, List.getElem_cons_succ] at h0
        rcases List.mem_cons.1 hx with rfl | hx
        · exact h0
        · have := ihm (a := c) (fun i hi => by
            have := h (i + 1) (by simpa using hi)
            simpa using this) x hx
          omega
    rw [List.nodup_cons]
    refine ⟨fun hm => ?_, ih⟩
    have := key h a hm
    omega
theorem part_few {t L : Bs} (hd : L.Nodup) {k a b : Nat} (ha : a < (lvl L k).length) (hp : ∀ x ∈ part L k a b, Lib.contains t x = true) : (part L k a b).length ≤ t.length + 1 := by
  obtain ⟨r, hr⟩ := part_prefix (L := L) (k := k) (a := a) (b := b) ha
  have hn := lvl_nodup hd (k + 1)
  rw [← hr] at hn
  refine occ_few (k := k + 1) (List.nodup_append.1 hn).1 (fun x hx => lvl_len (L := L) ?_) hp
  rw [← hr]; simp [hx]
theorem part_elem {L : Bs} {k a b : Nat} (ha : a < (lvl L k).length) (hb : b < L.length) : (lvl L (k + 1))[(part L k a b).length]? = some (((lvl L k).getD a []) ++ [L[b]]) := by
  obtain ⟨r, hr⟩ := part_prefix (L := L) (k := k) (a := a) (b := b + 1) ha
  rw [part_succ hb] at hr
  rw [← hr]
  simp
theorem part_before {L : Bs} {k a b i : Nat} {y : Bs} (ha : a < (lvl L k).length) (hi : i < (part L k a b).length) (h : (lvl L (k + 1))[i]? = some y) : y ∈ part L k a b := by
  obtain ⟨r, hr⟩ := part_prefix (L := L) (k := k) (a := a) (b := b) ha
  rw [← hr, List.getElem?_append_left hi] at h
  exact List.mem_of_getElem? h
theorem isAbs_of {t L : Bs} {k a b : Nat} (hf : ∀ j, j ≤ k → Full t L j) (ha : a < (lvl L k).length) (hb : b < L.length) (hp : ∀ x ∈ part L k a b, Lib.contains t x = true) (hn : Lib.contains t (((lvl L k).getD a []) ++ [L[b]]) = false) :
    IsAbs t L (((lvl L k).getD a []) ++ [L[b]]) :=
  ⟨k, (part L k a b).length, hf, part_elem ha hb, hn, fun _ _ hi hy => hp _ (part_before ha hi hy)⟩
/-- what Absent returns -/
def AbsPost (t L : Bs) (w : World) (e : Ending) (w' : World) : Prop := ∃ x, e = .returned (.tuple #[strV x, .int .i64 0]) ∧ IsAbs t L x ∧ Below w.heap.size w w'
theorem absentE_bad {s p : ByteArray} (hs : s.size ≤ 1000) (hp : p.size ≤ 1000) (h : ¬ (Lab (bs s) ∧ LetOK (bs p))) (w : World) :
    Calls Try.prog 43 #[.string s, .string p] w fun e w' => e = .returned (.tuple #[.string ⟨#[]⟩, .int .i64 2]) ∧ ∃ q, w' = w.drewN q := by
  by_cases h1 : Lab (bs s)
  · have H := Lib.hid (isLabel_b s hs true (decide_eq_true h1))
    have H2 := Lib.hid (validLetters_any p hp false (by simp; exact fun h2 => h ⟨h1, h2⟩))
    clear h h1
    go_enter Try.func43, Try.ntmps43
    go_wp2_with fail
    refine (H.out _).mono ?_
    rintro e w1 ⟨rfl, rfl⟩
    go_wp2_with fail
    refine (H2.out _).mono ?_
    rintro e w1 ⟨rfl, q, rfl⟩
    go_wp2_with fail
    go_ret2
    exact ⟨rfl, _, rfl⟩
  · have H := Lib.hid (isLabel_b s hs false (decide_eq_false h1))
    clear h h1
    go_enter Try.func43, Try.ntmps43
    go_wp2_with fail
    refine (H.out _).mono ?_
    rintro e w1 ⟨rfl, rfl⟩
    go_wp2_with fail
    go_ret2
    exact ⟨rfl, 0, rfl⟩
set_option maxRecDepth 100000 in
set_option maxHeartbeats 8000000 in
theorem absentE_any {s p : ByteArray} (h1 : Lab (bs s)) (h2 : LetOK (bs p)) (w : World) (hg : Glob w) :
    Calls Try.prog 43 #[.string s, .string p] w (AbsPost (bs s) (bs p) w) := by
  have hs := lab_size h1
  have hp : p.size ≤ 8 := by have := h2.2.1; rwa [bs_len] at this
  have hL1 : bs p ≠ [] := fun e => by have := h2.1; rw [e] at this; simp at this
  have hd := sorted_nodup h2.2.2.2
  have H := Lib.hid (isLabel_b s (by omega) true (decide_eq_true h1))
  have H2 := Lib.hid (validLetters_any p (by omega) true (by simp; exact h2))
  have HG := Lib.hid hg
  have Hlet := Lib.hid (fun k (hk : k < p.size) => let_letter h2 hk)
  have HD := Lib.hid hd
  have HL1 := Lib.hid hL1
  clear h1 h2 hL1 hd hg
  go_enter Try.func43, Try.ntmps43
  go_wp2_with fail
  refine (H.out _).mono ?_
  rintro e w1 ⟨rfl, rfl⟩
  go_wp2_with fail
  refine (H2.out _).mono ?_
  rintro e w1 ⟨rfl, q, rfl⟩
  have Hb1 := Lib.hid (show Below w.heap.size w (w.drewN q) from bdrewN (Below.refl _ _) _)
  generalize w.drewN q = w1 at *
  go_wp2_with fail
  have Hst := Lib.hid (show Strs (w1.alloc (.cells #[.string ⟨#[]⟩] 9)) (.slice (some ⟨w1.heap.size, 0, none⟩) 1 1) (lvl (bs p) 0) from rd_new w1 #[.string ⟨#[]⟩] 9 1 1 rfl (by unfold maxLen; omega))
  have Hb2 := Lib.hid (Below.tr Hb1.out (below_alloc w1 (.cells #[.string ⟨#[]⟩] 9)))
  generalize w1.alloc (.cells #[.string ⟨#[]⟩] 9) = w2 at *
  go_loopg [6] ((bs s).length + 1) (fun g v wr => ∃ k, k + g = (bs s).length + 1 ∧ Below w.heap.size w wr ∧ Strs wr v (lvl (bs p) k) ∧ ∀ j, j ≤ k → Full (bs s) (bs p) j)
  case atStart => exact ⟨0, by omega, Hb2.out, Hst.out, fun j hj => by
    have hj0 : j = 0 := by omega
    rw [hj0]; exact full_zero _ _⟩
  case round =>
    obtain ⟨k, hkg, hb, hst, hf⟩ := hrel
    have hkle := full_le HL1.out (hf k (Nat.le_refl _))
    have hfew := full_few HD.out (hf k (Nat.le_refl _))
    rw [bs_len] at hkle hkg hfew
    obtain ⟨a3, b3, off3, cap3, rfl, hle3, ha3, hc3⟩ := Strs.get hst
    obtain ⟨N, hN⟩ : ∃ N, N = (lvl (bs p) k).length := ⟨_, rfl⟩
    rw [← hN] at ha3 hc3 hle3 hfew
    have hix3 := run_ix (P := Try.prog) (t := 57) (a := a3) (len := N) (cap := cap3) (b := b3) (off := off3) (s := 1) Try.underlying57 (by intro w; kernel_rfl) ha3
    simp only [Nat.mul_one] at hix3
    have Hix3 := Lib.hid hix3
    have Hc3 := Lib.hid hc3
    have Hf := Lib.hid hf
    have Hb := Lib.hid hb
    have HN := Lib.hid hN
    have HGr := Lib.hid (Glob.keep HG.out Hb.out)
    rw [← hN]
    clear hb hst hf ha3 hc3 hix3 hN
    go_wp2_with fail
    obtain ⟨wo, hwo⟩ : ∃ wo : World, wo = wr := ⟨_, rfl⟩
    subst hwo
    go_loopw [7, 23] (fun o i wr => ∃ a : Nat, i = .int .i64 a ∧ a ≤ N ∧ Below wo.heap.size wo wr ∧ OwnStrs wo.heap.size wr o (part (bs p) k a 0) ∧ ∀ x ∈ part (bs p) k a 0, Lib.contains (bs s) x = true) (fun _ i _ => N - (intOf i).toNat)
    case atStart => exact ⟨0, rfl, Nat.zero_le _, Below.refl _ _, by rw [part_zero]; exact ownStrs_nil _ _, fun x hx => by rw [part_zero] at hx; cases hx⟩
    case round =>
      obtain ⟨a, rfl, ha, hb, hown, hall⟩ := hrel
      have Hb4 := Lib.hid hb
      have Hown := Lib.hid hown
      have Hall := Lib.hid hall
      clear hb hown hall
      by_cases hlta : a < N
      · have hixa := Hix3.out a
        have hca := Below.keep Hb4.out (Hc3.out a hlta)
        obtain ⟨S, hS, hSV⟩ : ∃ S : ByteArray, bs S = (lvl (bs p) k).getD a [] ∧ strV ((lvl (bs p) k).getD a []) = .string S := ⟨⟨((lvl (bs p) k).getD a []).toArray⟩, rfl, rfl⟩
        rw [hSV] at hca
        have hSk : S.size = k := by
          rw [← bs_len, hS]
          apply lvl_len (L := bs p)
          rw [List.getD_eq_getElem?_getD, List.getElem?_eq_getElem (by rw [← HN.out]; exact hlta)]
          exact List.getElem_mem _
        have HS := Lib.hid hS
        clear hS hSV
        go_wp2_with fail
        go_loopw [7, 29] (fun o i wr => ∃ b : Nat, i = .int .i64 b ∧ b ≤ p.size ∧ Below wo.heap.size wo wr ∧ OwnStrs wo.heap.size wr o (part (bs p) k a b) ∧ ∀ x ∈ part (bs p) k a b, Lib.contains (bs s) x = true) (fun _ i _ => p.size - (intOf i).toNat)
        case atStart => exact ⟨0, rfl, Nat.zero_le _, Hb4.out, Hown.out, Hall.out⟩
        case round =>
          obtain ⟨b, rfl, hbp, hb, hown, hall⟩ := hrel
          have Hb5 := Lib.hid hb
          have Hown5 := Lib.hid hown
          have Hall5 := Lib.hid hall
          clear hb hown hall
          by_cases hltb : b < p.size
          · have hletb : p[b].toNat ≤ 126 := by have := Hlet.out b hltb; unfold letterB at this; simp at this; omega
            have hx32 : IntKind.i32.wrap (p[b].toNat : Int) = (p[b].toNat : Int) := IntWalk.i32_in _ ⟨by omega, by omega⟩
            have Hnx := Lib.hid (show bs (S ++ Utf8.encode (p[b].toNat : Int)) = ((lvl (bs p) k).getD a []) ++ [(bs p)[b]'(by rw [bs_len]; exact hltb)] by rw [utf_bs _ hletb, HS.out, bs_get])
            have hsz1 : (Utf8.encode (p[b].toNat : Int)).size = 1 := by rw [utf_one _ hletb]; rfl
            go_wp2_with fail
            generalize Utf8.encode (p[b].toNat : Int) = C at *
            have HGr5 := Lib.hid (Glob.keep HGr.out Hb5.out)
            have hbL : b < (bs p).length := by rw [bs_len]; exact hltb
            have haL : a < (lvl (bs p) k).length := by rw [← HN.out]; exact hlta
            cases hcn : Lib.contains (bs s) (bs (S ++ C)) with
            | true =>
              have HC := Lib.hid (contains_any s (S ++ C) (by omega) true hcn wr HGr5.out)
              have Hall6 := Lib.hid (show ∀ x ∈ part (bs p) k a (b + 1), Lib.contains (bs s) x = true from fun x hx => by
                rw [part_succ hbL] at hx
                rcases List.mem_append.1 hx with hx | hx
                · exact Hall5.out x hx
                · simp only [List.mem_singleton] at hx
                  rw [hx, ← Hnx.out]; exact hcn)
              have hlen := part_few HD.out haL Hall5.out
              rw [bs_len] at hlen
              have Hlen := Lib.hid hlen
              clear hcn hlen
              refine HC.out.mono ?_
              rintro e w' ⟨rfl, rfl⟩
              go_wp2_with (at_builtin; refine append_own rfl (.tmp 44) (.tmp 46) 57 rfl elemStrs rfl (World.ownsRow.alloc Hown5.out _) [.string (S ++ C)] rfl rfl ?c1 ?c2 ?c3 ?c4 ?_)
              case c1 => intro q u hq; exact new_one _ _ _ hq
              case c2 => intro u hu; simp at hu; subst hu; rfl
              case c3 => have := Hlen.out; omega
              case c4 => have := Hb5.out.size; simp; omega
              intro v7 w7 hown7 hb7 _
              have HO := Lib.hid (show OwnStrs wo.heap.size w7 v7 (part (bs p) k a (b + 1)) from by
                rw [part_succ hbL]
                refine OwnStrs.snoc ?_
                rw [str_bs, Hnx.out] at hown7
                exact hown7)
              have hb' := Lib.hid (show Below wo.heap.size wo w7 from (Below.alloc Hb5.out Hb5.out.size _).trans hb7)
              clear hown7 hb7
              go_wp2_with fail
              go_roundw
              case rel => exact ⟨b + 1, by go_num, by omega, hb'.out, HO.out, Hall6.out⟩
              case measure => simp [intOf]; omega
            | false =>
              have HC := Lib.hid (contains_any s (S ++ C) (by omega) false hcn wr HGr5.out)
              have HA := Lib.hid (isAbs_of Hf.out haL hbL Hall5.out (by rw [← Hnx.out]; exact hcn))
              clear hcn
              refine HC.out.mono ?_
              rintro e w' ⟨rfl, rfl⟩
              go_wp2_with fail
              go_ret2
              exact ⟨_, by rw [← Hnx.out, ← str_bs]; rfl, HA.out, Below.tr Hb.out Hb5.out⟩
          · obtain rfl : b = p.size := by omega
            have Hown6 := Lib.hid (show OwnStrs wo.heap.size wr u7 (part (bs p) k (a + 1) 0) from by
              have := Hown5.out
              rw [← bs_len, part_row (by rw [← HN.out]; exact hlta)] at this
              exact this)
            have Hall6 := Lib.hid (show ∀ x ∈ part (bs p) k (a + 1) 0, Lib.contains (bs s) x = true from by
              have := Hall5.out
              rw [← bs_len, part_row (by rw [← HN.out]; exact hlta)] at this
              exact this)
            go_wp2_with fail
            go_roundw
            case rel => exact ⟨a + 1, by go_num, by omega, Hb5.out, Hown6.out, Hall6.out⟩
            case measure => simp [intOf]; omega
      · obtain rfl : a = N := by omega
        have Hst6 := Lib.hid (show Strs wr u7 (lvl (bs p) (k + 1)) from by
          have := Hown.out.strs
          rw [HN.out, part_all] at this
          exact this)
        have Hf6 := Lib.hid (show ∀ j, j ≤ k + 1 → Full (bs s) (bs p) j from fun j hj => by
          by_cases e : j = k + 1
          · rw [e]
            have := Hall.out
            rw [HN.out, part_all] at this
            exact this
          · exact Hf.out j (by omega))
        have hkl := full_le HL1.out (Hf6.out (k + 1) (Nat.le_refl _))
        rw [bs_len] at hkl
        go_wp2_with fail
        go_roundg (gk - 1)
        case measure => omega
        case rel => exact ⟨k + 1, by rw [bs_len]; omega, Below.tr Hb.out Hb4.out, Hst6.out, Hf6.out⟩
#print axioms absentE_any
end Go.Proofs.Ytbnlkmblkokooaa

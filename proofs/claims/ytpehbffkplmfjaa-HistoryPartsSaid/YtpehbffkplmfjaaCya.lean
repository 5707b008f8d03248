/- Contract of (*edges).cycle. -/
import Derived.Test.YtpehbffkplmfjaaCyc
import Derived.Test.YtpehbffkplmfjaaApk
import Derived.Test.YtpehbffkplmfjaaCtn
import Derived.BigQuiet
namespace Go.Proofs.Ytpehbffkplmfjaa
open Go.RowKit
/-- what the search gives: nothing, or a row of the call's own -/
def CycR (base : Nat) (w : World) (v : Value) : Option (List Nat) → Prop
  | none => v = .slice none 0 0
  | some c => (∃ a n k, v = .slice (some a) n k) ∧ OwnInts base w v (castN c)
def bitE (f : Nat → Nat) (a t : Nat) : Bool := (f a).testBit t
/-- one turn of the search -/
def cycT (E : Nat → Nat → Bool) (l : List Nat) (k : Nat) (b : List Nat) (t : Nat) : Option (List Nat) := if t ∈ b ∨ (0 < b.length ∧ E (b.getD (b.length - 1) 0) t = false) then none else cycF E l k (b ++ [t])
theorem cycF_succ (E : Nat → Nat → Bool) (l : List Nat) (k : Nat) (b : List Nat) : cycF E l (k + 1) b = l.findSome? (cycT E l k b) := rfl
theorem findSome_at {F : Nat → Option (List Nat)} : ∀ {l : List Nat} {j : Nat} (_ : ∀ q, q < j → F (l.getD q 0) = none) (_ : j < l.length) {c : List Nat} (_ : F (l.getD j 0) = some c), l.findSome? F = some c
  | [], j, _, hj, _, _ => by simp at hj
  | x :: l, 0, _, _, c, hc => by
    rw [List.getD_cons_zero] at hc
    rw [List.findSome?_cons, hc]
  | x :: l, j + 1, h, hj, c, hc => by
    have h0 := h 0 (by omega)
    rw [List.getD_cons_zero] at h0
    rw [List.findSome?_cons, h0]
    exact findSome_at (l := l) (j := j) (fun q hq => by simpa using h (q + 1) (by omega)) (by simpa using hj) (by simpa using hc)
theorem findSome_all {F : Nat → Option (List Nat)} {l : List Nat} (h : ∀ q, q < l.length → F (l.getD q 0) = none) : l.findSome? F = none :=
  List.findSome?_eq_none_iff.2 fun x hx => by
    obtain ⟨i, hi, e⟩ := List.getElem_of_mem hx
    have := h i hi
    rw [List.getD_eq_getElem?_getD, List.getElem?_eq_getElem hi, Option.getD_some, e] at this
    exact this
theorem grown_tr {a w w' : World} {row : Option Nat} (h : a.grownBy w row) (k : w.grownBy w' row) : a.grownBy w' row :=
  ⟨k.os.trans h.os, k.tape.trans h.tape, k.output.trans h.output, Nat.le_trans h.size k.size, fun j hj hne => (k.block j (Nat.lt_of_lt_of_le hj h.size) hne).trans (h.block j hj hne)⟩
theorem grown_next {w wr w1 w2 : World} {vb v' : Value} (h0 : w.grownBy wr vb.ownBlock) (h1 : wr.grownBy w1 vb.ownBlock) (h2 : w1.grownBy w2 v'.ownBlock) (e : v'.ownBlock = vb.ownBlock ∨ ∃ g, wr.heap.size ≤ g ∧ v'.ownBlock = some g) : w.grownBy w2 vb.ownBlock := by
  rcases e with e | ⟨g, hg, e⟩
  · exact grown_tr h0 (grown_tr h1 (e ▸ h2))
  · rw [e] at h2
    have h3 := grown_tr h0 h1
    exact ⟨h2.os.trans h3.os, h2.tape.trans h3.tape, h2.output.trans h3.output, Nat.le_trans h3.size h2.size, fun k hk hne => (h2.block k (Nat.lt_of_lt_of_le hk h3.size) (fun e => by injection e with e; have := h0.size; omega)).trans (h3.block k hk hne)⟩
set_option maxRecDepth 100000 in
set_option maxHeartbeats 8000000 in
theorem cycle_any {f : Nat → Nat} (hf : ∀ x, f x < 128) {l : List Nat} (h7 : ∀ x, x ∈ l → x < 7) (hl : l.length ≤ 7) {be : Nat} {vl : Value} {w0 : World} (hE : EdB w0 be f) (hvl : Ints w0 vl (castN l)) {size : Nat} (hs : size ≤ 7) :
    ∀ (k : Nat) (b : List Nat), b.length + k = size → (∀ x, x ∈ b → x < 7) → ∀ (vb : Value) (w : World), Below w0.heap.size w0 w → OwnInts w0.heap.size w vb (castN b) →
    Calls Try.prog 56 #[.pointer (some ⟨be, 0, none⟩), vl, vb, .int .i64 size] w fun e w' => ∃ v', e = .returned v' ∧ CycR w0.heap.size w' v' (cycF (bitE f) l k b) ∧ OwnInts w0.heap.size w' vb (castN b) ∧ Below w0.heap.size w0 w' ∧ w.grownBy w' vb.ownBlock := by
  intro k
  induction k with
  | zero =>
    intro b hbk h7b vb w hb ho
    have HE := Lib.hid (show EdB w be f from Blk.keep hE hb)
    have Hb := Lib.hid hb
    have Ho := Lib.hid ho
    obtain ⟨n, hn⟩ : ∃ n, n = b.length := ⟨_, rfl⟩
    obtain rfl : size = n := by omega
    have HC := Lib.hid (fun q => cloneI_any (castN b) vb (w.drewN q) (by rw [castN_length]; omega) (ho.ints.keep (bdrewN (Below.refl _ _) q)))
    have hfin : cycF (bitE f) l 0 b = if 1 < size ∧ bitE f (b.getD (size - 1) 0) (b.getD 0 0) = true then some b else none := by rw [hn]; rfl
    obtain ⟨R, hR⟩ : ∃ R, R = cycF (bitE f) l 0 b := ⟨_, rfl⟩
    rw [← hR] at hfin ⊢
    clear hR
    obtain ⟨a, bk, off, cap, hvb, hle, ha, hc⟩ := IntsN.get ho.ints
    rw [← hn] at hvb hle ha hc
    subst hvb
    have hix := run_ix (P := Try.prog) (t := 24) (a := a) (len := size) (cap := cap) (b := bk) (off := off) (s := 1) Try.underlying24 (by intro w; kernel_rfl) ha
    simp only [Nat.mul_one] at hix
    by_cases h1 : 1 < size
    · have hci := hc (size - 1) (by omega)
      have hc0 := hc 0 (by omega)
      have hx7 : b.getD (size - 1) 0 < 7 := h7b _ (getD_mem (by omega))
      have hy7 : b.getD 0 0 < 7 := h7b _ (getD_mem (by omega))
      obtain ⟨x, hx⟩ : ∃ x, x = b.getD (size - 1) 0 := ⟨_, rfl⟩
      obtain ⟨y, hy⟩ : ∃ y, y = b.getD 0 0 := ⟨_, rfl⟩
      rw [← hx] at hci hx7
      rw [← hy] at hc0 hy7
      rw [← hx, ← hy] at hfin
      have hixi := hix (size - 1)
      have hix0 := hix 0
      rw [show ((0 : Nat) : Int) = 0 from rfl, Nat.add_zero] at hix0
      rw [Nat.add_zero] at hc0
      have hmw : IntKind.i64.wrap ((size : Int) - 1) = ((size - 1 : Nat) : Int) := by rw [IntWalk.i64_in _ ⟨by omega, by omega⟩]; omega
      obtain ⟨m, hm⟩ : ∃ m, m = size - 1 := ⟨_, rfl⟩
      rw [← hm] at hci hixi hmw
      have hms : m < size := by omega
      have hz0 : 0 < size := by omega
      have Hz := Lib.hid (show 0 < b.length from by omega)
      have hd : decide ((1 : Int) < (size : Int)) = true := decide_eq_true (by omega)
      have Hh := Lib.hid (fun B (hB : (f x).testBit y = B) q => (has_any (show EdB (w.drewN q) be f from Blk.keep HE.out (bdrewN (Below.refl _ _) q)) hx7 hy7 (hf x) B hB).mono fun _ _ h => And.intro h.1 h.2.symm)
      clear hn hm hx hy hix hc hx7 hy7 hE hvl hb ho hf ha hle
      cases hB : (f x).testBit y with
      | true =>
        have HB := Lib.hid (Hh.out true hB)
        have HR := Lib.hid (show R = some b from by rw [hfin, if_pos ⟨h1, hB⟩])
        clear Hh hB hfin
        go_enter Try.func56, Try.ntmps56
        go_wp2_with fail
        go_quiet (first | (go_at_call 93; exact Calls.quiet_of_same (HB.out _)))
        go_wp2_with fail
        refine (HC.out _).mono ?_
        rintro e w1 ⟨v1, rfl, ho1, hb1⟩
        have Ho1 := Lib.hid ho1
        have Hb1 := Lib.hid (Below.tr (bdrewN (Below.refl w.heap.size w) nq) hb1)
        clear ho1 hb1
        go_wp2_with fail
        go_ret
        have hb1 := Hb1.out
        exact ⟨_, rfl, by rw [HR.out]; exact ⟨by obtain ⟨a, c, e⟩ := own_some Ho1.out (by rw [castN_length]; omega); exact ⟨a, _, c, e⟩, Ho1.out.base Hb.out.size⟩, Ho.out.keep hb1, Below.tr Hb.out hb1, ⟨hb1.os, hb1.tape, hb1.output, hb1.size, fun k hk _ => hb1.block k hk⟩⟩
      | false =>
        have HB := Lib.hid (Hh.out false hB)
        have HR := Lib.hid (show R = none from by rw [hfin, if_neg (fun q => by rw [show bitE f x y = false from hB] at q; cases q.2)])
        clear Hh hB hfin
        go_enter Try.func56, Try.ntmps56
        go_wp2_with fail
        go_quiet (first | (go_at_call 93; exact Calls.quiet_of_same (HB.out _)))
        go_wp2_with fail
        go_ret
        exact ⟨_, rfl, by rw [HR.out]; rfl, Ho.out.keep (bdrewN (Below.refl _ _) _), bdrewN Hb.out _, ⟨rfl, rfl, rfl, Nat.le_refl _, fun _ _ _ => rfl⟩⟩
    · have HR := Lib.hid (show R = none from by rw [hfin, if_neg (fun q => h1 q.1)])
      have hd : decide ((1 : Int) < (size : Int)) = false := decide_eq_false (by omega)
      clear hn hix hc hE hvl hb ho hf ha hle hfin h1
      go_enter Try.func56, Try.ntmps56
      go_wp2_with fail
      go_quiet (fail)
      go_wp2_with fail
      go_ret
      exact ⟨_, rfl, by rw [HR.out]; rfl, Ho.out.keep (bdrewN (Below.refl _ _) _), bdrewN Hb.out _, ⟨rfl, rfl, rfl, Nat.le_refl _, fun _ _ _ => rfl⟩⟩
  | succ k ih =>
    intro b hbk h7b vb w hb ho
    have IH := Lib.hid ih
    have HE := Lib.hid hE
    have Hvl := Lib.hid hvl
    have Hb := Lib.hid hb
    have Ho := Lib.hid ho
    have Hf := Lib.hid hf
    have H7 := Lib.hid h7
    have H7b := Lib.hid h7b
    have Hbk := Lib.hid hbk
    obtain ⟨n, hn⟩ : ∃ n, n = b.length := ⟨_, rfl⟩
    have Hall := Lib.hid (show (∀ q, q < l.length → cycT (bitE f) l k b (l.getD q 0) = none) → cycF (bitE f) l (k + 1) b = none from fun h => by rw [cycF_succ]; exact findSome_all h)
    have Hat := Lib.hid (show ∀ (j : Nat) (c : List Nat), (∀ q, q < j → cycT (bitE f) l k b (l.getD q 0) = none) → j < l.length → cycT (bitE f) l k b (l.getD j 0) = some c → cycF (bitE f) l (k + 1) b = some c from fun j c h hj hc => by rw [cycF_succ]; exact findSome_at h hj hc)
    obtain ⟨R, hR⟩ : ∃ R, R = cycF (bitE f) l (k + 1) b := ⟨_, rfl⟩
    rw [← hR] at Hall Hat ⊢
    obtain ⟨T, hT⟩ : ∃ T, T = cycT (bitE f) l k b := ⟨_, rfl⟩
    rw [← hT] at Hall Hat
    have HT := Lib.hid (show ∀ t, T t = if t ∈ b ∨ (0 < n ∧ bitE f (b.getD (n - 1) 0) t = false) then none else cycF (bitE f) l k (b ++ [t]) from fun t => by rw [hT, hn]; rfl)
    clear hR hT ih
    obtain ⟨al, bl, offl, capl, hvl2, hlel, hal, hcl⟩ := IntsN.get hvl
    subst hvl2
    have hixl := run_ix (P := Try.prog) (t := 24) (a := al) (len := l.length) (cap := capl) (b := bl) (off := offl) (s := 1) Try.underlying24 (by intro w; kernel_rfl) hal
    simp only [Nat.mul_one] at hixl
    obtain ⟨a, bk, off, cap, hvb, hle, ha, hc⟩ := IntsN.get ho.ints
    rw [← hn] at hvb ha
    subst hvb
    have hix := run_ix (P := Try.prog) (t := 24) (a := a) (len := n) (cap := cap) (b := bk) (off := off) (s := 1) Try.underlying24 (by intro w; kernel_rfl) ha
    simp only [Nat.mul_one] at hix
    have Hixl := Lib.hid hixl
    have Hcl := Lib.hid hcl
    have Hix := Lib.hid hix
    have hns : n < size := by omega
    have hne : ((n : Int) == (size : Int)) = false := by rw [beq_eq_false_iff_ne]; omega
    have Hn := Lib.hid hn
    clear hE hvl hb ho hf h7 h7b hbk hn hixl hix hcl hc ha hle hal hlel
    go_enter Try.func56, Try.ntmps56
    go_wp2_with fail
    go_loopw [36] (fun i wr => ∃ j : Nat, i = .int .i64 j ∧ j ≤ l.length ∧ Below w0.heap.size w0 wr ∧ OwnInts w0.heap.size wr (.slice a n cap) (castN b) ∧ w.grownBy wr (Value.slice a n cap).ownBlock ∧ ∀ q, q < j → T (l.getD q 0) = none) (fun i _ => l.length - (intOf i).toNat)
    case atStart => exact ⟨0, rfl, Nat.zero_le _, Hb.out, Ho.out, World.grownBy.refl _ _, fun q hq => by omega⟩
    case round =>
      obtain ⟨j, rfl, hj, hb, ho, hg, hno⟩ := hrel
      obtain ⟨wA, hwA⟩ : ∃ wA : World, wA = wr := ⟨_, rfl⟩
      subst hwA
      clear Hb Ho
      have Hb := Lib.hid hb
      have Ho := Lib.hid ho
      have Hg := Lib.hid hg
      have Hno := Lib.hid hno
      clear hb ho hg hno
      by_cases hlt : j < l.length
      · have hcj := Below.keep Hb.out (Hcl.out j hlt)
        have hixj := Hixl.out j
        have Ht7 := Lib.hid (H7.out _ (getD_mem hlt))
        have Hatj := Lib.hid (fun c (e : T (l.getD j 0) = some c) => Hat.out j c Hno.out hlt e)
        have Hnoj := Lib.hid (fun (e : T (l.getD j 0) = none) => show ∀ q, q < j + 1 → T (l.getD q 0) = none from fun q hq => by
          by_cases e2 : q = j
          · subst e2; exact e
          · exact Hno.out q (by omega))
        have HTj := Lib.hid (HT.out (l.getD j 0))
        obtain ⟨t, ht⟩ : ∃ t, t = l.getD j 0 := ⟨_, rfl⟩
        rw [← ht] at hcj Ht7 Hatj Hnoj HTj
        have HCt := Lib.hid (fun B (hB : decide (t ∈ b) = B) => containsI_any t b B hB (.slice a n cap) wA Ho.out.ints)
        clear ht
        obtain ⟨X, hX⟩ : ∃ X, X = decide (t ∈ b ∨ (0 < n ∧ bitE f (b.getD (n - 1) 0) t = false)) := ⟨_, rfl⟩
        have HX := Lib.hid hX
        clear hX
        go_upto_region 9 with fail
        go_cut [57] from 40 to 57 (fun o wx => o = .bool X ∧ wx = wA)
        case first =>
          by_cases hm : t ∈ b
          · have HC := Lib.hid (HCt.out true (decide_eq_true hm))
            have HR := Lib.hid (show X = true from by rw [HX.out]; exact decide_eq_true (.inl hm))
            clear hm
            go_wp2_with fail
            refine HC.out.mono ?_
            rintro e w1 ⟨rfl, rfl⟩
            go_wp2_with fail
            go_meet
            exact ⟨by rw [HR.out], rfl⟩
          · have HC := Lib.hid (HCt.out false (decide_eq_false hm))
            by_cases h0 : 0 < n
            · have hn0 := Hn.out
              have hx7 : b.getD (n - 1) 0 < 7 := H7b.out _ (getD_mem (by omega))
              have HR := Lib.hid (show X = !((f (b.getD (n - 1) 0)).testBit t) from by
                rw [HX.out]
                unfold bitE
                cases (f (b.getD (n - 1) 0)).testBit t with
                | true => exact decide_eq_false (fun q => q.elim hm (fun q => by cases q.2))
                | false => exact decide_eq_true (.inr ⟨h0, rfl⟩))
              obtain ⟨a2, bk2, off2, cap2, hvb2, _, ha2, hc2⟩ := IntsN.get Ho.out.ints
              rw [← hn0] at hvb2 ha2
              injection hvb2 with e1 e2 e3
              subst e1 e3
              have hcx := hc2 (n - 1) (by omega)
              have hix2 := run_ix (P := Try.prog) (t := 24) (a := a) (len := n) (cap := cap) (b := bk2) (off := off2) (s := 1) Try.underlying24 (by intro w; kernel_rfl) ha2
              simp only [Nat.mul_one] at hix2
              have hixx := hix2 (n - 1)
              have hmw : IntKind.i64.wrap ((n : Int) - 1) = ((n - 1 : Nat) : Int) := by rw [IntWalk.i64_in _ ⟨by omega, by omega⟩]; omega
              have Hh := Lib.hid (fun B (hB : (f (b.getD (n - 1) 0)).testBit t = B) => has_any (show EdB wA be f from Blk.keep HE.out Hb.out) hx7 Ht7.out (Hf.out _) B hB)
              obtain ⟨x, hx⟩ : ∃ x, x = b.getD (n - 1) 0 := ⟨_, rfl⟩
              rw [← hx] at hcx Hh HR
              obtain ⟨m, hmm⟩ : ∃ m, m = n - 1 := ⟨_, rfl⟩
              rw [← hmm] at hcx hixx hmw
              have hmn : m < n := by omega
              have hd : decide (0 < n) = true := decide_eq_true h0
              obtain ⟨B, hB⟩ : ∃ B, B = (f x).testBit t := ⟨_, rfl⟩
              have HB := Lib.hid (Hh.out B hB.symm)
              rw [← hB] at HR
              clear hm hn0 hx hmm hB Hh hix2 hc2 ha2 e2 hx7
              go_wp2_with fail
              refine HC.out.mono ?_
              rintro e w1 ⟨rfl, rfl⟩
              go_wp2_with fail
              refine HB.out.mono ?_
              rintro e w2 ⟨rfl, rfl⟩
              go_wp2_with fail
              go_meet
              exact ⟨by rw [HR.out], rfl⟩
            · have HR := Lib.hid (show X = false from by rw [HX.out]; exact decide_eq_false (fun q => q.elim hm (fun q => h0 q.1)))
              obtain rfl : n = 0 := by omega
              clear hm h0
              go_wp2_with fail
              refine HC.out.mono ?_
              rintro e w1 ⟨rfl, rfl⟩
              go_wp2_with fail
              go_meet
              exact ⟨by rw [HR.out], rfl⟩
        case rest =>
          obtain ⟨rfl, rfl⟩ := hcut
          cases X with
          | true =>
            have HN := Lib.hid (Hnoj.out (by rw [HTj.out, if_pos (of_decide_eq_true HX.out.symm)]))
            go_wp2_with fail
            go_roundw
            case rel => exact ⟨j + 1, by go_num, by omega, Hb.out, Ho.out, Hg.out, HN.out⟩
            case measure => simp [intOf]; omega
          | false =>
            have HTe := Lib.hid (show T t = cycF (bitE f) l k (b ++ [t]) from by rw [HTj.out, if_neg (of_decide_eq_false HX.out.symm)])
            have hbn : (castN b).length ≤ 1000000 := by rw [castN_length]; have := Hn.out; omega
            have hHb := Hb.out.size
            go_wp2_with (at_builtin; refine append_keep rfl (.tmp 60) (.tmp 62) 24 rfl elemInts rfl (World.ownsRow.alloc Ho.out _) (y := .int .i64 t) rfl (by rw [cell_new]; rfl) rfl hbn (by simp; omega) ?_)
            intro v' w1 hown1 hg1 hor hback
            have hgA : wc.grownBy w1 (Value.slice a n cap).ownBlock := grown_tr (World.grownBy_alloc wc _ _) hg1
            have hb1 : Below w0.heap.size w0 w1 := Below.grown Hb.out hgA hHb (fun g hg => (own_lt Ho.out hg).1)
            have hsn : OwnInts w0.heap.size w1 v' (castN (b ++ [t])) := by
              rw [castN_append]; exact OwnInts.snoc hown1
            have Hsn := Lib.hid hsn
            have Hor := Lib.hid (show v'.ownBlock = (Value.slice a n cap).ownBlock ∨ ∃ g, wc.heap.size ≤ g ∧ v'.ownBlock = some g from hor.imp id fun e => ⟨_, by simp, e⟩)
            have Hback := Lib.hid hback
            have HgA := Lib.hid hgA
            have Hb1 := Lib.hid hb1
            clear hown1 hg1 hor hback hgA hb1 hsn hHb hbn
            go_wp2_with fail
            refine (IH.out (b ++ [t]) (by rw [List.length_append, List.length_singleton]; have := Hbk.out; omega) (fun x hx => by
              rcases List.mem_append.1 hx with h | h
              · exact H7b.out x h
              · rw [List.mem_singleton.1 h]; exact Ht7.out) v' w1 Hb1.out Hsn.out).mono ?_
            rintro e w2 ⟨v2, rfl, hR2, ho2, hb2, hg2⟩
            have Ho2 := Lib.hid (show OwnInts w0.heap.size w2 (.slice a n cap) (castN b) from Hback.out w2 hg2 (by
              rw [castN_append] at ho2
              unfold OwnInts at ho2
              simpa [castN] using ho2))
            have Hb2 := Lib.hid hb2
            have Hg2 := Lib.hid (grown_next Hg.out HgA.out hg2 Hor.out)
            clear ho2 hb2 hg2 Hback Hsn Hb1 HgA Hor
            obtain ⟨C, hC⟩ : ∃ C, C = cycF (bitE f) l k (b ++ [t]) := ⟨_, rfl⟩
            rw [← hC] at hR2 HTe
            clear hC
            cases C with
            | none =>
              have hneN := fun w' => run_neq_slice_nil_any (P := Try.prog) w' 24 3 none 0 0 0 0 Try.underlying24
              obtain rfl : v2 = .slice none 0 0 := hR2
              have HN := Lib.hid (Hnoj.out HTe.out)
              go_wp2_with fail
              go_roundw
              case rel => exact ⟨j + 1, by go_num, by omega, Hb2.out, Ho2.out, Hg2.out, HN.out⟩
              case measure => simp [intOf]; omega
            | some c =>
              obtain ⟨⟨a2, n2, k2, rfl⟩, ho3⟩ := hR2
              have hneS := fun w' => run_neq_slice_nil_any (P := Try.prog) w' 24 3 (some a2) n2 k2 0 0 Try.underlying24
              have HR := Lib.hid (Hatj.out c HTe.out)
              have Ho3 := Lib.hid ho3
              clear ho3
              go_wp2_with fail
              go_ret
              exact ⟨_, rfl, by rw [HR.out]; exact ⟨⟨_, _, _, rfl⟩, Ho3.out⟩, Ho2.out, Hb2.out, Hg2.out⟩
      · obtain rfl : j = l.length := by omega
        have HR := Lib.hid (Hall.out Hno.out)
        go_wp2_with fail
        go_ret
        exact ⟨_, rfl, by rw [HR.out]; rfl, Ho.out, Hb.out, Hg.out⟩
#print axioms cycle_any
end Go.Proofs.Ytpehbffkplmfjaa

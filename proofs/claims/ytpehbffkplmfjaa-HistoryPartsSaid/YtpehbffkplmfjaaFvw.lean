/- Contract of firstView. -/
import Derived.Test.YtpehbffkplmfjaaVeq
import Derived.Test.YtpehbffkplmfjaaAps
import Derived.Test.YtpehbffkplmfjaaCya
namespace Go.Proofs.Ytpehbffkplmfjaa
open Go.RowKit
/-- the operations of transaction t come next, of the first n -/
def doT (h : List NOp) (t : Nat) : Nat → (Nat → Nat) → Nat → Nat
  | 0, V => V
  | n + 1, V => if tT h n = t then doV h n (doT h t n V) else doT h t n V
/-- the first order that ends with the view G -/
def fvF (h : List NOp) (G : Nat → Nat) : Nat → List Nat → List Nat → (Nat → Nat) → Option (List Nat)
  | 0, _, ord, V => if eqV V G = true then some ord else none
  | k + 1, left, ord, V => (List.range left.length).findSome? fun i => fvF h G k (left.eraseIdx i) (ord ++ [left.getD i 0]) (doT h (left.getD i 0) h.length V)
theorem range_getD' {m q : Nat} (h : q < m) : (List.range m).getD q 0 = q := by
  rw [List.getD_eq_getElem?_getD, List.getElem?_eq_getElem (by simpa using h)]; simp
theorem range_at {F : Nat → Option (List Nat)} {n i : Nat} (hno : ∀ q, q < i → F q = none) (hi : i < n) {c : List Nat} (hc : F i = some c) : (List.range n).findSome? F = some c :=
  findSome_at (j := i) (fun q hq => by rw [range_getD' (by omega)]; exact hno q hq) (by simpa using hi) (by rw [range_getD' hi]; exact hc)
theorem range_none {F : Nat → Option (List Nat)} {n : Nat} (hno : ∀ q, q < n → F q = none) : (List.range n).findSome? F = none :=
  findSome_all fun q hq => by
    rw [List.length_range] at hq
    rw [range_getD' hq]; exact hno q hq
theorem below_grown {w w' : World} (h : Below w.heap.size w w') (row : Option Nat) : w.grownBy w' row := ⟨h.os, h.tape, h.output, h.size, fun k hk _ => h.block k hk⟩
theorem own_nslice {base : Nat} {w : World} {v : Value} {l : List Nat} (h : OwnInts base w v (castN l)) : ∃ a c, v = .slice a l.length c := by
  obtain ⟨a, c, e⟩ := own_slice h
  rw [castN_length] at e
  exact ⟨a, c, e⟩
theorem sizeView : (Try.prog.info? 88).map (·.size) = some 46 := by kernel_rfl
theorem ints_size (n : Nat) (f : Nat → Nat) : (ints n f).size = n := row_size n _
theorem intsA_one (n : Nat) (f : Nat → Nat) : (ints n f).all (·.oneCell') = true := by
  rw [Array.all_eq_true]
  intro i hi
  simp only [ints, row, List.getElem_toArray, List.getElem_map]
  rfl
set_option maxRecDepth 100000 in
set_option maxHeartbeats 16000000 in
theorem firstView_any {h : List NOp} (hh : VH h) {G : Nat → Nat} {gb : Nat} {a : Option Addr} {c : Nat} {w0 : World} (hv : Ops w0 (.slice a h.length c) (castO h)) (hG : VwB w0 gb G) :
    ∀ (k : Nat) (left ord : List Nat), left.length = k → ord.length + k ≤ 7 → ∀ (V : Nat → Nat) (vl vo : Value) (w : World), Below w0.heap.size w0 w → OwnInts w0.heap.size w vl (castN left) → OwnInts w0.heap.size w vo (castN ord) →
    (∀ g, vl.ownBlock = some g → vo.ownBlock ≠ some g) →
    Calls Try.prog 62 #[.slice a h.length c, .pointer (some ⟨gb, 0, none⟩), vl, vo, .agg (ints 46 V)] w fun e w' => ∃ v', e = .returned (.tuple #[v', .bool (fvF h G k left ord V).isSome]) ∧ (∀ x, fvF h G k left ord V = some x → Ints w' v' (castN x)) ∧ OwnInts w0.heap.size w' vo (castN ord) ∧ Below w0.heap.size w0 w' ∧ w.grownBy w' vo.ownBlock := by
  intro k
  induction k with
  | zero =>
    intro left ord hlk hlen V vl vo w hb hl ho _
    obtain ⟨al, cl, rfl⟩ := own_nslice hl
    rw [hlk]
    have HB1 := Lib.hid (show VwB (w.alloc (.cells (ints 46 V) 88)) w.heap.size V from blk_new w 88 46 _)
    have hbl := below_alloc w (.cells (ints 46 V) 88)
    have Hb1 := Lib.hid (show Below w0.heap.size w0 (w.alloc (.cells (ints 46 V) 88)) from Below.tr hb hbl)
    have HC := Lib.hid (cloneI_any (castN ord) vo (w.alloc (.cells (ints 46 V) 88)) (by rw [castN_length]; omega) (ho.ints.keep hbl))
    have Ho := Lib.hid ho
    have HGk := Lib.hid (fun (w' : World) (hb : Below w0.heap.size w0 w') => show VwB w' gb G from Blk.keep hG hb)
    have Hg1 := Lib.hid hbl
    obtain ⟨B, hB⟩ : ∃ B, B = eqV V G := ⟨_, rfl⟩
    have HR := Lib.hid (show fvF h G 0 left ord V = if B = true then some ord else none from by rw [hB]; rfl)
    have HE := Lib.hid (fun (w : World) (b c : Nat) (h1 : VwB w b V) (h2 : VwB w c G) => equals_any w h1 h2 B hB.symm)
    obtain ⟨R, hR⟩ : ∃ R, R = fvF h G 0 left ord V := ⟨_, rfl⟩
    rw [← hR] at HR ⊢
    obtain ⟨L, hL⟩ : ∃ L, L = ints 46 V := ⟨_, rfl⟩
    rw [← hL] at HB1 Hb1 HC Hg1 ⊢
    obtain ⟨w1, hw1⟩ : ∃ w1, w1 = w.alloc (.cells L 88) := ⟨_, rfl⟩
    rw [← hw1] at HB1 Hb1 HC Hg1
    obtain ⟨pb, hpb⟩ : ∃ pb, pb = w.heap.size := ⟨_, rfl⟩
    rw [← hpb] at HB1
    have Hpb := Lib.hid hpb
    clear hR hL hB hb hl ho hbl hv hG hlk hpb
    go_enter Try.func62, Try.ntmps62
    go_wp2_with fail
    rw [← hw1, ← Hpb.out]
    clear hw1
    refine HC.out.mono ?_
    rintro e w2 ⟨v2, rfl, ho2, hb2⟩
    have HB2 := Lib.hid (show VwB w2 pb V from Blk.keep HB1.out hb2)
    have Hb2 := Lib.hid (Below.tr Hb1.out hb2)
    have Ho2 := Lib.hid ho2
    have Hbb := Lib.hid hb2
    clear ho2 hb2 HC
    go_wp2_with fail
    refine (HE.out w2 pb gb HB2.out (HGk.out w2 Hb2.out)).mono ?_
    rintro e w3 ⟨rfl, hb3⟩
    have Hb3 := Lib.hid hb3
    clear hb3
    go_wp2_with fail
    go_ret2
    have hg3 := Below.tr (Below.tr Hg1.out Hbb.out) Hb3.out
    refine ⟨v2, ?_, fun x hx => ?_, (Ho.out.keep hg3), Below.tr Hb2.out Hb3.out, ⟨hg3.os, hg3.tape, hg3.output, hg3.size, fun k hk _ => hg3.block k hk⟩⟩
    · rw [HR.out]
      cases B <;> rfl
    · rw [HR.out] at hx
      cases B with
      | true =>
        simp only [if_true] at hx
        obtain rfl : ord = x := Option.some.inj hx
        exact Ho2.out.ints.keep Hb3.out
      | false => simp at hx
  | succ k ih =>
    intro left ord hlk hlen V vl vo w hb hl ho hsep
    obtain ⟨al, cl, rfl⟩ := own_nslice hl
    obtain ⟨n, hn⟩ : ∃ n, n = left.length := ⟨_, rfl⟩
    have hn7 : n ≤ 7 := by omega
    have hn0 : ((n : Int) == 0) = false := by rw [beq_eq_false_iff_ne]; omega
    have IH := Lib.hid ih
    have HH := Lib.hid hh
    obtain ⟨pb, hpb⟩ : ∃ pb, pb = w.heap.size := ⟨_, rfl⟩
    have hbl := below_alloc w (.cells (ints 46 V) 88)
    have HB1 := Lib.hid (show VwB (w.alloc (.cells (ints 46 V) 88)) pb V from by rw [hpb]; exact blk_new w 88 46 _)
    have Hb1 := Lib.hid (show Below w0.heap.size w0 (w.alloc (.cells (ints 46 V) 88)) from Below.tr hb hbl)
    have Hg1 := Lib.hid hbl
    have Hl1 := Lib.hid (hl.keep hbl)
    have Ho1 := Lib.hid (ho.keep hbl)
    have Hlp := Lib.hid (fun g (hg : (Value.slice al left.length cl).ownBlock = some g) => show g < pb from by rw [hpb]; exact (own_lt hl hg).2)
    have Hop := Lib.hid (fun g (hg : vo.ownBlock = some g) => show g < pb ∧ w0.heap.size ≤ g from by rw [hpb]; exact ⟨(own_lt ho hg).2, (own_lt ho hg).1⟩)
    have Hsep := Lib.hid hsep
    have Hw0 := Lib.hid hb.size
    have Hk := Lib.hid hlk
    have Hlen := Lib.hid hlen
    have Hv := Lib.hid hv
    obtain ⟨F, hF⟩ : ∃ F : Nat → Option (List Nat), F = fun i => fvF h G k (left.eraseIdx i) (ord ++ [left.getD i 0]) (doT h (left.getD i 0) h.length V) := ⟨_, rfl⟩
    have hRF : fvF h G (k + 1) left ord V = (List.range n).findSome? F := by rw [hF, hn]; rfl
    have HF := Lib.hid (fun i => show F i = fvF h G k (left.eraseIdx i) (ord ++ [left.getD i 0]) (doT h (left.getD i 0) h.length V) from by rw [hF])
    obtain ⟨R, hR⟩ : ∃ R, R = fvF h G (k + 1) left ord V := ⟨_, rfl⟩
    rw [← hR] at hRF ⊢
    have Hat := Lib.hid (fun (i : Nat) (c : List Nat) (hno : ∀ q, q < i → F q = none) (hi : i < n) (hc : F i = some c) => hRF.trans (range_at hno hi hc))
    have Hall := Lib.hid (fun (hno : ∀ q, q < n → F q = none) => hRF.trans (range_none hno))
    rw [← hn] at Hl1 Hlp Hsep ⊢
    have hLs : (Try.prog.info? 88).map (·.size) = some (ints 46 V).size := by rw [ints_size]; exact sizeView
    have HLs := Lib.hid hLs
    have HL1 := Lib.hid (intsA_one 46 V)
    have HZ := Lib.hid (show #[Value.int .i64 0, Value.int .i64 0, Value.int .i64 0, Value.int .i64 0, Value.int .i64 0, Value.int .i64 0, Value.int .i64 0, Value.int .i64 0, Value.int .i64 0, Value.int .i64 0, Value.int .i64 0, Value.int .i64 0, Value.int .i64 0, Value.int .i64 0, Value.int .i64 0, Value.int .i64 0, Value.int .i64 0, Value.int .i64 0, Value.int .i64 0, Value.int .i64 0, Value.int .i64 0, Value.int .i64 0, Value.int .i64 0, Value.int .i64 0, Value.int .i64 0, Value.int .i64 0, Value.int .i64 0, Value.int .i64 0, Value.int .i64 0, Value.int .i64 0, Value.int .i64 0, Value.int .i64 0, Value.int .i64 0, Value.int .i64 0, Value.int .i64 0, Value.int .i64 0, Value.int .i64 0, Value.int .i64 0, Value.int .i64 0, Value.int .i64 0, Value.int .i64 0, Value.int .i64 0, Value.int .i64 0, Value.int .i64 0, Value.int .i64 0, Value.int .i64 0].size = (ints 46 V).size from by rw [ints_size]; rfl)
    have HBk := Lib.hid (fun w : World => show VwB ((w.alloc (.cells #[Value.int .i64 0, Value.int .i64 0, Value.int .i64 0, Value.int .i64 0, Value.int .i64 0, Value.int .i64 0, Value.int .i64 0, Value.int .i64 0, Value.int .i64 0, Value.int .i64 0, Value.int .i64 0, Value.int .i64 0, Value.int .i64 0, Value.int .i64 0, Value.int .i64 0, Value.int .i64 0, Value.int .i64 0, Value.int .i64 0, Value.int .i64 0, Value.int .i64 0, Value.int .i64 0, Value.int .i64 0, Value.int .i64 0, Value.int .i64 0, Value.int .i64 0, Value.int .i64 0, Value.int .i64 0, Value.int .i64 0, Value.int .i64 0, Value.int .i64 0, Value.int .i64 0, Value.int .i64 0, Value.int .i64 0, Value.int .i64 0, Value.int .i64 0, Value.int .i64 0, Value.int .i64 0, Value.int .i64 0, Value.int .i64 0, Value.int .i64 0, Value.int .i64 0, Value.int .i64 0, Value.int .i64 0, Value.int .i64 0, Value.int .i64 0, Value.int .i64 0] 88)).setRow w.heap.size (ints 46 V)) w.heap.size V from (blk_new w 88 46 fun _ => .int .i64 0).setRow _)
    have HBl := Lib.hid (fun (w : World) (h : VwB w pb V) => show w.heap[pb]? = some (.cells (ints 46 V) 88 (0, 0)) from h)
    obtain ⟨L, hL⟩ : ∃ L, L = ints 46 V := ⟨_, rfl⟩
    rw [← hL] at HB1 Hb1 Hg1 Hl1 Ho1 HLs HL1 HZ HBk HBl ⊢
    obtain ⟨w1, hw1⟩ : ∃ w1, w1 = w.alloc (.cells L 88) := ⟨_, rfl⟩
    rw [← hw1] at HB1 Hb1 Hg1 Hl1 Ho1
    have Hpb := Lib.hid hpb
    have Hn := Lib.hid hn
    clear hL hR hF hRF hb hl ho hbl hv hh hlk hlen hpb hn ih hsep hLs
    go_enter Try.func62, Try.ntmps62
    go_wp2_with fail
    rw [← hw1, ← Hpb.out]
    clear hw1
    go_loopw [29] (fun vi wr => ∃ i : Nat, vi = .int .i64 i ∧ i ≤ n ∧ Below w0.heap.size w0 wr ∧ OwnInts w0.heap.size wr vo (castN ord) ∧ w1.grownBy wr vo.ownBlock ∧ ∀ q, q < i → F q = none) (fun vi _ => n - (intOf vi).toNat)
    case atStart => exact ⟨0, rfl, Nat.zero_le _, Hb1.out, Ho1.out, World.grownBy.refl _ _, fun q hq => by omega⟩
    case round =>
      obtain ⟨i, rfl, hi, hb, ho, hg, hno⟩ := hrel
      obtain ⟨wA, hwA⟩ : ∃ wA : World, wA = wr := ⟨_, rfl⟩
      subst hwA
      have hlA : OwnInts w0.heap.size wA (.slice al n cl) (castN left) := own_block Hl1.out fun g hg' => hg.block g (own_lt Hl1.out hg').2 (fun e => Hsep.out g hg' e.symm)
      have hBA : VwB wA pb V := (hg.block pb HB1.out.lt (fun e => by have := (Hop.out pb e.symm).1; omega)).trans HB1.out
      have HbA := Lib.hid hb
      have HoA := Lib.hid ho
      have HgA := Lib.hid hg
      have HlA := Lib.hid hlA
      have HBA := Lib.hid hBA
      have Hno := Lib.hid hno
      clear hb ho hg hno hlA hBA Ho1
      by_cases hlt : i < n
      · obtain ⟨a2, b2, off2, cap2, hv2, _, ha2, hc2⟩ := IntsN.get HlA.out.ints
        rw [← Hn.out] at hv2 ha2 hc2
        injection hv2 with e1 _ e3
        subst e1 e3
        have hix := run_ix (P := Try.prog) (t := 24) (a := al) (len := n) (cap := cl) (b := b2) (off := off2) (s := 1) Try.underlying24 (by intro w; kernel_rfl) ha2
        simp only [Nat.mul_one] at hix
        have hixi := hix i
        have hci := hc2 i hlt
        have HFi := Lib.hid (HF.out i)
        have Hati := Lib.hid (fun c (e : F i = some c) => Hat.out i c Hno.out hlt e)
        have Hnoi := Lib.hid (fun (e : F i = none) => show ∀ q, q < i + 1 → F q = none from fun q hq => by
          by_cases e2 : q = i
          · subst e2; exact e
          · exact Hno.out q (by omega))
        obtain ⟨t, ht⟩ : ∃ t, t = left.getD i 0 := ⟨_, rfl⟩
        rw [← ht] at hci HFi
        clear ht hix ha2 hc2
        go_upto_region 7 with (first
          | (refine wpList_load_row rfl 88 (.tmp 9) rfl pb rfl 88 L (0, 0) _ (HBl.out _ HBA.out) Try.underlying88 rfl HLs.out ?_)
          | (refine wpList_store_row rfl 88 (.tmp 14) (.tmp 34) rfl wA.heap.size L rfl rfl 88 _ (heap_alloc_new _ _) HLs.out HZ.out HL1.out ?_; have HB2 := Lib.hid (HBk.out wA); have Hb2 := Lib.hid (show Below wA.heap.size wA ((wA.alloc (.cells #[Value.int .i64 0, Value.int .i64 0, Value.int .i64 0, Value.int .i64 0, Value.int .i64 0, Value.int .i64 0, Value.int .i64 0, Value.int .i64 0, Value.int .i64 0, Value.int .i64 0, Value.int .i64 0, Value.int .i64 0, Value.int .i64 0, Value.int .i64 0, Value.int .i64 0, Value.int .i64 0, Value.int .i64 0, Value.int .i64 0, Value.int .i64 0, Value.int .i64 0, Value.int .i64 0, Value.int .i64 0, Value.int .i64 0, Value.int .i64 0, Value.int .i64 0, Value.int .i64 0, Value.int .i64 0, Value.int .i64 0, Value.int .i64 0, Value.int .i64 0, Value.int .i64 0, Value.int .i64 0, Value.int .i64 0, Value.int .i64 0, Value.int .i64 0, Value.int .i64 0, Value.int .i64 0, Value.int .i64 0, Value.int .i64 0, Value.int .i64 0, Value.int .i64 0, Value.int .i64 0, Value.int .i64 0, Value.int .i64 0, Value.int .i64 0, Value.int .i64 0] 88)).setRow wA.heap.size L) from below_setRow (below_alloc _ _) (Nat.le_refl _) _); generalize (wA.alloc (.cells #[Value.int .i64 0, Value.int .i64 0, Value.int .i64 0, Value.int .i64 0, Value.int .i64 0, Value.int .i64 0, Value.int .i64 0, Value.int .i64 0, Value.int .i64 0, Value.int .i64 0, Value.int .i64 0, Value.int .i64 0, Value.int .i64 0, Value.int .i64 0, Value.int .i64 0, Value.int .i64 0, Value.int .i64 0, Value.int .i64 0, Value.int .i64 0, Value.int .i64 0, Value.int .i64 0, Value.int .i64 0, Value.int .i64 0, Value.int .i64 0, Value.int .i64 0, Value.int .i64 0, Value.int .i64 0, Value.int .i64 0, Value.int .i64 0, Value.int .i64 0, Value.int .i64 0, Value.int .i64 0, Value.int .i64 0, Value.int .i64 0, Value.int .i64 0, Value.int .i64 0, Value.int .i64 0, Value.int .i64 0, Value.int .i64 0, Value.int .i64 0, Value.int .i64 0, Value.int .i64 0, Value.int .i64 0, Value.int .i64 0, Value.int .i64 0, Value.int .i64 0] 88)).setRow wA.heap.size L = w2 at *))
        simp only [Act.put]
        obtain ⟨a3, b3, off3, cap3, hv3, hle3, ha3, hcap3, hc3⟩ := Ops.nat Hv.out
        injection hv3 with e1 _ e3
        subst e1 e3
        have hixo := run_ix (P := Try.prog) (t := 29) (a := a) (len := h.length) (cap := c) (b := b3) (off := off3) (s := 3) Try.underlying29 (by intro w; kernel_rfl) ha3
        have h40 := HH.out.le
        have Hc3 := Lib.hid hc3
        have Hixo := Lib.hid hixo
        clear hc3 hixo ha3 hle3 hcap3 hixi hci
        go_wp2_with fail
        go_loopw [37] (fun vj wq => ∃ j : Nat, vj = .int .i64 j ∧ j ≤ h.length ∧ Below wA.heap.size wA wq ∧ VwB wq wA.heap.size (doT h t j V)) (fun vj _ => h.length - (intOf vj).toNat)
        case atStart => exact ⟨0, rfl, Nat.zero_le _, Hb2.out, HB2.out⟩
        case round =>
          obtain ⟨j, rfl, hj, hb, hB⟩ := hrel
          obtain ⟨wC, hwC⟩ : ∃ wC : World, wC = wr := ⟨_, rfl⟩
          subst hwC
          have HbC := Lib.hid hb
          have HBC := Lib.hid hB
          clear hb hB
          by_cases hjl : j < h.length
          · have Hb0C := Lib.hid (Below.tr HbA.out HbC.out)
            have hd1 := Below.keep Hb0C.out (Hc3.out j hjl).1
            have hd2 := Below.keep Hb0C.out (Hc3.out j hjl).2.1
            have hd3 := Below.keep Hb0C.out (Hc3.out j hjl).2.2
            have hixj := Hixo.out j
            have HDT := Lib.hid (show doT h t (j + 1) V = if tT h j = t then doV h j (doT h t j V) else doT h t j V from rfl)
            obtain ⟨s, hs⟩ : ∃ s, s = tT h j := ⟨_, rfl⟩
            obtain ⟨r, hr⟩ : ∃ r, r = tK h j := ⟨_, rfl⟩
            obtain ⟨y, hy⟩ : ∃ y, y = tI h j := ⟨_, rfl⟩
            rw [← hs] at hd1 HDT
            rw [← hr] at hd2
            rw [← hy] at hd3
            clear hs hr hy
            have e0 := cell_new wC #[.int .i64 s, .int .i64 r, .int .i64 y] 58 0
            have HbD := Lib.hid (show Below wA.heap.size wA (wC.alloc (.cells #[.int .i64 s, .int .i64 r, .int .i64 y] 58)) from Below.tr HbC.out (below_alloc _ _))
            have HBD := Lib.hid (show VwB (wC.alloc (.cells #[.int .i64 s, .int .i64 r, .int .i64 y] 58)) wA.heap.size (doT h t j V) from Blk.keep HBC.out (below_alloc _ _))
            by_cases e : s = t
            · subst e
              have HDV := Lib.hid (HDT.out.trans (if_pos rfl))
              go_wp2_with fail
              refine (do_any HH.out hjl (.slice a h.length c) _ (Ops.keep Hv.out (Below.tr HbA.out HbD.out)) HBD.out).mono ?_
              rintro e w5 ⟨rfl, hB5, hg5⟩
              have Hb5 := Lib.hid (grown_below2 HbD.out hg5 (Nat.le_refl _))
              have HB5 := Lib.hid hB5
              clear hB5 hg5 hd1 hd2 hd3 e0
              go_wp2_with fail
              go_roundw
              case rel => exact ⟨j + 1, by go_num, by omega, Hb5.out, by rw [HDV.out]; exact HB5.out⟩
              case measure => simp [intOf]; omega
            · have HDV := Lib.hid (HDT.out.trans (if_neg e))
              have q1 : ((s : Int) == (t : Int)) = false := by rw [beq_eq_false_iff_ne]; omega
              clear e
              go_wp2_with fail
              go_roundw
              case rel => exact ⟨j + 1, by go_num, by omega, HbD.out, by rw [HDV.out]; exact HBD.out⟩
              case measure => simp [intOf]; omega
          · obtain rfl : j = h.length := by omega
            obtain ⟨V', hV'⟩ : ∃ V', V' = doT h t h.length V := ⟨_, rfl⟩
            rw [← hV'] at HBC HFi
            have HCl := Lib.hid (cloneI_any (castN left) (.slice al n cl) wC (by rw [castN_length]; have := Hn.out; omega) (HlA.out.ints.keep HbC.out))
            have hwi : IntKind.i64.wrap ((i : Int) + 1) = (i : Int) + 1 := by rw [IntWalk.i64_in _ ⟨by omega, by omega⟩]
            clear hV'
            go_wp2_with fail
            refine HCl.out.mono ?_
            rintro e w5 ⟨v5, rfl, ho5, hb5⟩
            have HD := Lib.hid (delete_any ho5 (i := i) (by rw [castN_length]; have := Hn.out; omega))
            have Ho5 := Lib.hid ho5
            have Hb5 := Lib.hid hb5
            clear ho5 hb5 HCl
            go_wp2_with fail
            refine HD.out.mono ?_
            rintro e w6 ⟨v6, rfl, ho6, hg6, _⟩
            have hb6 : Below wC.heap.size wC w6 := Below.grown Hb5.out hg6 Hb5.out.size (fun g hg => (own_lt Ho5.out hg).1)
            rw [← castN_erase] at ho6
            have HR6 := Lib.hid ho6
            have Ho6 := Lib.hid (HoA.out.keep (Below.tr HbC.out hb6))
            have HB6 := Lib.hid (show VwB w6 wA.heap.size V' from Blk.keep HBC.out hb6)
            have Hb06 := Lib.hid (Below.tr (Below.tr HbA.out HbC.out) hb6)
            have Hg16 := Lib.hid (grown_tr HgA.out (below_grown (Below.tr HbC.out hb6) vo.ownBlock))
            have Hz := Lib.hid (show pb ≤ wA.heap.size ∧ wA.heap.size ≤ wC.heap.size ∧ wC.heap.size ≤ w6.heap.size ∧ w0.heap.size ≤ w6.heap.size from ⟨by
              have h1 := Hg1.out.size
              have h2 := HgA.out.size
              have h3 := Hpb.out
              omega, HbC.out.size, hb6.size, Hb06.out.size⟩)
            have HK := Lib.hid (fun (wb w9 : World) (v' : Value) (hwb : Below w6.heap.size w6 wb) (hown9 : w9.ownsRow w0.heap.size 3 1 v' ((castN ord).length + 1) ((castN ord).map (Value.int .i64) ++ [.int .i64 (t : Nat)])) (hg9 : wb.grownBy w9 vo.ownBlock)
              (hor9 : v'.ownBlock = vo.ownBlock ∨ v'.ownBlock = some wb.heap.size) (hback9 : BackTo w0.heap.size 3 vo (castN ord).length ((castN ord).map (Value.int .i64)) (.int .i64 (t : Nat)) v' w9) =>
              show Calls Try.prog 62 #[.slice a h.length c, .pointer (some ⟨gb, 0, none⟩), v6, v', .agg (ints 46 V')] w9 fun e w10 => ∃ v10, e = .returned (.tuple #[v10, .bool (F i).isSome]) ∧ (∀ x, F i = some x → Ints w10 v10 (castN x)) ∧ OwnInts w0.heap.size w10 vo (castN ord) ∧ Below w0.heap.size w0 w10 ∧ w1.grownBy w10 vo.ownBlock from by
                have hz := Hz.out
                have hwz := hwb.size
                have hsn : OwnInts w0.heap.size w9 v' (castN (ord ++ [t])) := by rw [castN_append]; exact OwnInts.snoc hown9
                have hr9 : OwnInts w0.heap.size w9 v6 (castN (left.eraseIdx i)) := own_block ((HR6.out.keep hwb).base (by have := HbA.out.size; omega)) fun g hg => hg9.block g (by have := (own_lt HR6.out hg).2; omega) (fun e => by
                  have h1 := (Hop.out g e.symm).1
                  have h2 := (own_lt HR6.out hg).1
                  omega)
                have hb9 : Below w0.heap.size w0 w9 := Below.grown (Below.tr Hb06.out hwb) hg9 (by omega) (fun g hg => (Hop.out g hg).2)
                refine (IH.out (left.eraseIdx i) (ord ++ [t]) (by rw [List.length_eraseIdx_of_lt (by have := Hn.out; omega)]; have := Hk.out; omega) (by rw [List.length_append, List.length_singleton]; have := Hlen.out; omega) V' v6 v' w9 hb9 hr9 hsn (fun g hg e => by
                  have h2 := own_lt HR6.out hg
                  rcases hor9 with h3 | h3
                  · rw [h3] at e
                    have := (Hop.out g e).1
                    omega
                  · rw [h3] at e
                    injection e with e
                    omega)).mono ?_
                rintro e w10 ⟨v10, rfl, hI, ho10, hb10, hg10⟩
                refine ⟨v10, by rw [HFi.out], fun x hx => hI x (by rw [← HFi.out]; exact hx), hback9 w10 hg10 (by
                  rw [castN_append] at ho10
                  unfold OwnInts at ho10
                  simpa [castN] using ho10), hb10, grown_next (grown_tr Hg16.out (below_grown hwb _)) hg9 hg10 (hor9.imp id fun e => ⟨_, Nat.le_refl _, e⟩)⟩)
            have HVb := Lib.hid (fun (wb : World) (hwb : Below w6.heap.size w6 wb) => show VwB wb wA.heap.size V' from Blk.keep HB6.out hwb)
            have HV9 := Lib.hid (fun (wb w9 : World) (hwb : Below w6.heap.size w6 wb) (hg9 : wb.grownBy w9 vo.ownBlock) => show VwB w9 wA.heap.size V' from (hg9.block _ (Blk.lt (HVb.out wb hwb)) (fun e => by
              have h1 := (Hop.out _ e.symm).1
              have h2 := Hz.out.1
              omega)).trans (HVb.out wb hwb))
            have HSz := Lib.hid (show (Try.prog.info? 88).map (·.size) = some (ints 46 V').size from by rw [ints_size]; exact sizeView)
            have HBlk := Lib.hid (fun (w : World) (h : VwB w wA.heap.size V') => show w.heap[wA.heap.size]? = some (.cells (ints 46 V') 88 (0, 0)) from h)
            obtain ⟨L', hL'⟩ : ∃ L', L' = ints 46 V' := ⟨_, rfl⟩
            rw [← hL'] at HK HSz HBlk
            have Hon := Lib.hid (show (castN ord).length ≤ 1000000 from by rw [castN_length]; have := Hlen.out; omega)
            have Hdr := Lib.hid (show Below w6.heap.size w6 w6.drew from (Below.refl _ _).drew)
            clear hL' ho6 hg6 hb6
            go_upto_region 14 with fail
            go_cut [18, 19] from 56 to 67 (fun o18 o19 wx => ∃ v7, o18 = v7 ∧ o19 = .bool (F i).isSome ∧ (∀ x, F i = some x → Ints wx v7 (castN x)) ∧ OwnInts w0.heap.size wx vo (castN ord) ∧ Below w0.heap.size w0 wx ∧ w1.grownBy wx vo.ownBlock)
            case first =>
              refine wp_region_any (by kernel_rfl) ?_
              change wpAny _ _ _ _ _ _ _ (World.drew _)
              refine wpAny_take (i := 0) (v := ?_) rfl (by kernel_rfl) (by kernel_rfl) (by kernel_rfl) (fun _ _ _ h => h) (Or.inl ⟨by rfl, ?_⟩) ?_
              rotate_left
              focus (first | (intro w; go_simp; done) | (intro w; go_simp; with_reducible rfl))
              simp only [Act.put, List.getElem_toArray, List.getElem_cons_zero, List.setIfInBounds_toArray, List.set_cons_zero, List.set_cons_succ]
              refine wpAny_take (i := 1) (v := ?_) rfl (by kernel_rfl) (by kernel_rfl) (by kernel_rfl) (fun _ _ _ h => h) (Or.inl ⟨by rfl, ?_⟩) ?_
              rotate_left
              focus (first | (intro w; go_simp; done) | (intro w; go_simp; with_reducible rfl))
              simp only [Act.put, List.getElem_toArray, List.getElem_cons_zero, List.getElem_cons_succ, List.setIfInBounds_toArray, List.set_cons_zero, List.set_cons_succ]
              refine wpAny_take (i := 2) (v := ?_) rfl (by kernel_rfl) (by kernel_rfl) (by kernel_rfl) (fun _ _ _ h => h) (Or.inl ⟨by rfl, ?_⟩) ?_
              rotate_left
              focus (first | (intro w; go_simp; done) | (intro w; go_simp; with_reducible rfl))
              simp only [Act.put, List.getElem_toArray, List.getElem_cons_zero, List.getElem_cons_succ, List.setIfInBounds_toArray, List.set_cons_zero, List.set_cons_succ]
              refine wpAny_take (i := 3) (v := ?_) rfl (by kernel_rfl) (by kernel_rfl) (by kernel_rfl) (fun _ _ _ h => h) (Or.inl ⟨by rfl, ?_⟩) ?_
              rotate_left
              focus (first | (intro w; go_simp; done) | (intro w; go_simp; with_reducible rfl))
              simp only [Act.put, List.getElem_toArray, List.getElem_cons_zero, List.getElem_cons_succ, List.setIfInBounds_toArray, List.set_cons_zero, List.set_cons_succ]
              refine wpAny_take (i := 4) (v := ?_) rfl (by kernel_rfl) (by kernel_rfl) (by kernel_rfl) (fun _ _ _ h => h) (Or.inl ⟨by rfl, ?_⟩) ?_
              rotate_left
              focus (first | (intro w; go_simp; done) | (intro w; go_simp; with_reducible rfl))
              simp only [Act.put, List.getElem_toArray, List.getElem_cons_zero, List.getElem_cons_succ, List.setIfInBounds_toArray, List.set_cons_zero, List.set_cons_succ]
              refine wpAny_ready (rs := [5, 7]) (by kernel_rfl) (by simp) ?_
              refine AllReady.cons rfl (fun K hK => ?_) ?_
              · go_simp
                refine hK _ _ ?_
                clear hK K
                refine wpAny_ready (rs := [6, 7]) (by kernel_rfl) (by simp) ?_
                refine AllReady.cons rfl (fun K hK => ?_) ?_
                · refine step_append_keep rfl (.tmp 60) (.tmp 62) 24 rfl elemInts rfl (World.ownsRow.alloc (Ho6.out.keep Hdr.out) _) (y := .int .i64 (t : Nat)) rfl ((cell_new w6 #[.int .i64 (t : Nat)] 3 0).trans rfl) rfl Hon.out (by have := Hz.out; simp; omega) ?_
                  intro v' w9 hown9 hg9 hor9 hback9
                  have H9 := Lib.hid (And.intro hown9 (And.intro hg9 (And.intro hor9 hback9)))
                  clear hown9 hg9 hor9 hback9
                  simp only [Act.put, List.getElem_toArray, List.getElem_cons_zero, List.getElem_cons_succ, List.setIfInBounds_toArray, List.set_cons_zero, List.set_cons_succ]
                  refine hK _ _ ?_
                  clear hK K
                  refine wpAny_ready (rs := [7]) (by kernel_rfl) (by simp) ?_
                  refine AllReady.cons rfl (fun K hK => ?_) AllReady.nil
                  refine step_load_row rfl 88 (.tmp 14) rfl wA.heap.size rfl 88 L' (0, 0) _ (HBlk.out _ (HV9.out _ _ (by exact (Below.tr Hdr.out (below_alloc _ _))) H9.out.2.1)) Try.underlying88 rfl HSz.out ?_
                  simp only [Act.put, List.getElem_toArray, List.getElem_cons_zero, List.getElem_cons_succ, List.setIfInBounds_toArray, List.set_cons_zero, List.set_cons_succ]
                  refine hK _ _ ?_
                  clear hK K
                  refine wpAny_ready (rs := [8]) (by kernel_rfl) (by simp) ?_
                  refine AllReady.cons rfl (fun K hK => ?_) AllReady.nil
                  go_simp
                  go_at_call 62
                  refine (HK.out _ _ _ (by exact (Below.tr Hdr.out (below_alloc _ _))) H9.out.1 H9.out.2.1 H9.out.2.2.1 H9.out.2.2.2).mono ?_
                  rintro e w10 ⟨v10, rfl, hI, ho10, hb10, hg10⟩
                  have H10 := Lib.hid (And.intro hI (And.intro ho10 (And.intro hb10 hg10)))
                  clear hI ho10 hb10 hg10 H9
                  go_simp
                  refine hK _ _ ?_
                  clear hK K
                  refine wpAny_take (i := 9) (v := ?_) rfl (by kernel_rfl) (by kernel_rfl) (by kernel_rfl) (fun _ _ _ h => h) (Or.inl ⟨by rfl, ?_⟩) ?_
                  rotate_left
                  focus (first | (intro w; go_simp; done) | (intro w; go_simp; with_reducible rfl))
                  simp only [Act.put, List.getElem_toArray, List.getElem_cons_zero, List.getElem_cons_succ, List.setIfInBounds_toArray, List.set_cons_zero, List.set_cons_succ]
                  refine wpAny_take (i := 10) (v := ?_) rfl (by kernel_rfl) (by kernel_rfl) (by kernel_rfl) (fun _ _ _ h => h) (Or.inl ⟨by rfl, ?_⟩) ?_
                  rotate_left
                  focus (first | (intro w; go_simp; done) | (intro w; go_simp; with_reducible rfl))
                  simp only [Act.put, List.getElem_toArray, List.getElem_cons_zero, List.getElem_cons_succ, List.setIfInBounds_toArray, List.set_cons_zero, List.set_cons_succ]
                  refine wpAny_take (i := 11) (v := ?_) rfl (by kernel_rfl) (by kernel_rfl) (by kernel_rfl) (fun _ _ _ h => h) (Or.inl ⟨by rfl, ?_⟩) ?_
                  rotate_left
                  focus (first | (intro w; go_simp; done) | (intro w; go_simp; with_reducible rfl))
                  simp only [Act.put, List.getElem_toArray, List.getElem_cons_zero, List.getElem_cons_succ, List.setIfInBounds_toArray, List.set_cons_zero, List.set_cons_succ]
                  refine wpAny_take (i := 12) (v := ?_) rfl (by kernel_rfl) (by kernel_rfl) (by kernel_rfl) (fun _ _ _ h => h) (Or.inl ⟨by rfl, ?_⟩) ?_
                  rotate_left
                  focus (first | (intro w; go_simp; done) | (intro w; go_simp; with_reducible rfl))
                  simp only [Act.put, List.getElem_toArray, List.getElem_cons_zero, List.getElem_cons_succ, List.setIfInBounds_toArray, List.set_cons_zero, List.set_cons_succ]
                  refine wpAny_take (i := 13) (v := ?_) rfl (by kernel_rfl) (by kernel_rfl) (by kernel_rfl) (fun _ _ _ h => h) (Or.inl ⟨by rfl, ?_⟩) ?_
                  rotate_left
                  focus (first | (intro w; go_simp; done) | (intro w; go_simp; with_reducible rfl))
                  simp only [Act.put, List.getElem_toArray, List.getElem_cons_zero, List.getElem_cons_succ, List.setIfInBounds_toArray, List.set_cons_zero, List.set_cons_succ]
                  refine wpAny_done (by kernel_rfl) ?_ _
                  go_wp2_with fail
                  go_meet
                  exact ⟨_, rfl, rfl, H10.out.1, H10.out.2.1, H10.out.2.2.1, H10.out.2.2.2⟩
                · refine AllReady.cons rfl (fun K hK => ?_) AllReady.nil
                  refine step_load_row rfl 88 (.tmp 14) rfl wA.heap.size rfl 88 L' (0, 0) _ (HBlk.out _ (HVb.out _ (by exact (Below.tr Hdr.out (below_alloc _ _))))) Try.underlying88 rfl HSz.out ?_
                  simp only [Act.put, List.getElem_toArray, List.getElem_cons_zero, List.getElem_cons_succ, List.setIfInBounds_toArray, List.set_cons_zero, List.set_cons_succ]
                  refine hK _ _ ?_
                  clear hK K
                  refine wpAny_ready (rs := [6]) (by kernel_rfl) (by simp) ?_
                  refine AllReady.cons rfl (fun K hK => ?_) AllReady.nil
                  refine step_append_keep rfl (.tmp 60) (.tmp 62) 24 rfl elemInts rfl (World.ownsRow.alloc (Ho6.out.keep Hdr.out) _) (y := .int .i64 (t : Nat)) rfl ((cell_new w6 #[.int .i64 (t : Nat)] 3 0).trans rfl) rfl Hon.out (by have := Hz.out; simp; omega) ?_
                  intro v' w9 hown9 hg9 hor9 hback9
                  have H9 := Lib.hid (And.intro hown9 (And.intro hg9 (And.intro hor9 hback9)))
                  clear hown9 hg9 hor9 hback9
                  simp only [Act.put, List.getElem_toArray, List.getElem_cons_zero, List.getElem_cons_succ, List.setIfInBounds_toArray, List.set_cons_zero, List.set_cons_succ]
                  refine hK _ _ ?_
                  clear hK K
                  refine wpAny_ready (rs := [8]) (by kernel_rfl) (by simp) ?_
                  refine AllReady.cons rfl (fun K hK => ?_) AllReady.nil
                  go_simp
                  go_at_call 62
                  refine (HK.out _ _ _ (by exact (Below.tr Hdr.out (below_alloc _ _))) H9.out.1 H9.out.2.1 H9.out.2.2.1 H9.out.2.2.2).mono ?_
                  rintro e w10 ⟨v10, rfl, hI, ho10, hb10, hg10⟩
                  have H10 := Lib.hid (And.intro hI (And.intro ho10 (And.intro hb10 hg10)))
                  clear hI ho10 hb10 hg10 H9
                  go_simp
                  refine hK _ _ ?_
                  clear hK K
                  refine wpAny_take (i := 9) (v := ?_) rfl (by kernel_rfl) (by kernel_rfl) (by kernel_rfl) (fun _ _ _ h => h) (Or.inl ⟨by rfl, ?_⟩) ?_
                  rotate_left
                  focus (first | (intro w; go_simp; done) | (intro w; go_simp; with_reducible rfl))
                  simp only [Act.put, List.getElem_toArray, List.getElem_cons_zero, List.getElem_cons_succ, List.setIfInBounds_toArray, List.set_cons_zero, List.set_cons_succ]
                  refine wpAny_take (i := 10) (v := ?_) rfl (by kernel_rfl) (by kernel_rfl) (by kernel_rfl) (fun _ _ _ h => h) (Or.inl ⟨by rfl, ?_⟩) ?_
                  rotate_left
                  focus (first | (intro w; go_simp; done) | (intro w; go_simp; with_reducible rfl))
                  simp only [Act.put, List.getElem_toArray, List.getElem_cons_zero, List.getElem_cons_succ, List.setIfInBounds_toArray, List.set_cons_zero, List.set_cons_succ]
                  refine wpAny_take (i := 11) (v := ?_) rfl (by kernel_rfl) (by kernel_rfl) (by kernel_rfl) (fun _ _ _ h => h) (Or.inl ⟨by rfl, ?_⟩) ?_
                  rotate_left
                  focus (first | (intro w; go_simp; done) | (intro w; go_simp; with_reducible rfl))
                  simp only [Act.put, List.getElem_toArray, List.getElem_cons_zero, List.getElem_cons_succ, List.setIfInBounds_toArray, List.set_cons_zero, List.set_cons_succ]
                  refine wpAny_take (i := 12) (v := ?_) rfl (by kernel_rfl) (by kernel_rfl) (by kernel_rfl) (fun _ _ _ h => h) (Or.inl ⟨by rfl, ?_⟩) ?_
                  rotate_left
                  focus (first | (intro w; go_simp; done) | (intro w; go_simp; with_reducible rfl))
                  simp only [Act.put, List.getElem_toArray, List.getElem_cons_zero, List.getElem_cons_succ, List.setIfInBounds_toArray, List.set_cons_zero, List.set_cons_succ]
                  refine wpAny_take (i := 13) (v := ?_) rfl (by kernel_rfl) (by kernel_rfl) (by kernel_rfl) (fun _ _ _ h => h) (Or.inl ⟨by rfl, ?_⟩) ?_
                  rotate_left
                  focus (first | (intro w; go_simp; done) | (intro w; go_simp; with_reducible rfl))
                  simp only [Act.put, List.getElem_toArray, List.getElem_cons_zero, List.getElem_cons_succ, List.setIfInBounds_toArray, List.set_cons_zero, List.set_cons_succ]
                  refine wpAny_done (by kernel_rfl) ?_ _
                  go_wp2_with fail
                  go_meet
                  exact ⟨_, rfl, rfl, H10.out.1, H10.out.2.1, H10.out.2.2.1, H10.out.2.2.2⟩
              · refine AllReady.cons rfl (fun K hK => ?_) AllReady.nil
                refine step_load_row rfl 88 (.tmp 14) rfl wA.heap.size rfl 88 L' (0, 0) _ (HBlk.out _ (HVb.out _ Hdr.out)) Try.underlying88 rfl HSz.out ?_
                simp only [Act.put, List.getElem_toArray, List.getElem_cons_zero, List.getElem_cons_succ, List.setIfInBounds_toArray, List.set_cons_zero, List.set_cons_succ]
                refine hK _ _ ?_
                clear hK K
                refine wpAny_ready (rs := [5]) (by kernel_rfl) (by simp) ?_
                refine AllReady.cons rfl (fun K hK => ?_) AllReady.nil
                go_simp
                refine hK _ _ ?_
                clear hK K
                refine wpAny_ready (rs := [6]) (by kernel_rfl) (by simp) ?_
                refine AllReady.cons rfl (fun K hK => ?_) AllReady.nil
                refine step_append_keep rfl (.tmp 60) (.tmp 62) 24 rfl elemInts rfl (World.ownsRow.alloc (Ho6.out.keep Hdr.out) _) (y := .int .i64 (t : Nat)) rfl ((cell_new w6 #[.int .i64 (t : Nat)] 3 0).trans rfl) rfl Hon.out (by have := Hz.out; simp; omega) ?_
                intro v' w9 hown9 hg9 hor9 hback9
                have H9 := Lib.hid (And.intro hown9 (And.intro hg9 (And.intro hor9 hback9)))
                clear hown9 hg9 hor9 hback9
                simp only [Act.put, List.getElem_toArray, List.getElem_cons_zero, List.getElem_cons_succ, List.setIfInBounds_toArray, List.set_cons_zero, List.set_cons_succ]
                refine hK _ _ ?_
                clear hK K
                refine wpAny_ready (rs := [8]) (by kernel_rfl) (by simp) ?_
                refine AllReady.cons rfl (fun K hK => ?_) AllReady.nil
                go_simp
                go_at_call 62
                refine (HK.out _ _ _ (by exact (Below.tr Hdr.out (below_alloc _ _))) H9.out.1 H9.out.2.1 H9.out.2.2.1 H9.out.2.2.2).mono ?_
                rintro e w10 ⟨v10, rfl, hI, ho10, hb10, hg10⟩
                have H10 := Lib.hid (And.intro hI (And.intro ho10 (And.intro hb10 hg10)))
                clear hI ho10 hb10 hg10 H9
                go_simp
                refine hK _ _ ?_
                clear hK K
                refine wpAny_take (i := 9) (v := ?_) rfl (by kernel_rfl) (by kernel_rfl) (by kernel_rfl) (fun _ _ _ h => h) (Or.inl ⟨by rfl, ?_⟩) ?_
                rotate_left
                focus (first | (intro w; go_simp; done) | (intro w; go_simp; with_reducible rfl))
                simp only [Act.put, List.getElem_toArray, List.getElem_cons_zero, List.getElem_cons_succ, List.setIfInBounds_toArray, List.set_cons_zero, List.set_cons_succ]
                refine wpAny_take (i := 10) (v := ?_) rfl (by kernel_rfl) (by kernel_rfl) (by kernel_rfl) (fun _ _ _ h => h) (Or.inl ⟨by rfl, ?_⟩) ?_
                rotate_left
                focus (first | (intro w; go_simp; done) | (intro w; go_simp; with_reducible rfl))
                simp only [Act.put, List.getElem_toArray, List.getElem_cons_zero, List.getElem_cons_succ, List.setIfInBounds_toArray, List.set_cons_zero, List.set_cons_succ]
                refine wpAny_take (i := 11) (v := ?_) rfl (by kernel_rfl) (by kernel_rfl) (by kernel_rfl) (fun _ _ _ h => h) (Or.inl ⟨by rfl, ?_⟩) ?_
                rotate_left
                focus (first | (intro w; go_simp; done) | (intro w; go_simp; with_reducible rfl))
                simp only [Act.put, List.getElem_toArray, List.getElem_cons_zero, List.getElem_cons_succ, List.setIfInBounds_toArray, List.set_cons_zero, List.set_cons_succ]
                refine wpAny_take (i := 12) (v := ?_) rfl (by kernel_rfl) (by kernel_rfl) (by kernel_rfl) (fun _ _ _ h => h) (Or.inl ⟨by rfl, ?_⟩) ?_
                rotate_left
                focus (first | (intro w; go_simp; done) | (intro w; go_simp; with_reducible rfl))
                simp only [Act.put, List.getElem_toArray, List.getElem_cons_zero, List.getElem_cons_succ, List.setIfInBounds_toArray, List.set_cons_zero, List.set_cons_succ]
                refine wpAny_take (i := 13) (v := ?_) rfl (by kernel_rfl) (by kernel_rfl) (by kernel_rfl) (fun _ _ _ h => h) (Or.inl ⟨by rfl, ?_⟩) ?_
                rotate_left
                focus (first | (intro w; go_simp; done) | (intro w; go_simp; with_reducible rfl))
                simp only [Act.put, List.getElem_toArray, List.getElem_cons_zero, List.getElem_cons_succ, List.setIfInBounds_toArray, List.set_cons_zero, List.set_cons_succ]
                refine wpAny_done (by kernel_rfl) ?_ _
                go_wp2_with fail
                go_meet
                exact ⟨_, rfl, rfl, H10.out.1, H10.out.2.1, H10.out.2.2.1, H10.out.2.2.2⟩
            case rest =>
              obtain ⟨v7, rfl, rfl, hI, ho, hb, hg⟩ := hcut
              have HI := Lib.hid hI
              have Hox := Lib.hid ho
              have Hbx := Lib.hid hb
              have Hgx := Lib.hid hg
              clear hI ho hb hg
              cases hF : F i with
              | none =>
                have HN := Lib.hid (Hnoi.out hF)
                go_wp2_with fail
                go_roundw
                case rel => exact ⟨i + 1, by go_num, by omega, Hbx.out, Hox.out, Hgx.out, HN.out⟩
                case measure => simp [intOf]; omega
              | some x7 =>
                have HRx := Lib.hid (Hati.out x7 hF)
                have HIx := Lib.hid (HI.out x7 hF)
                go_wp2_with fail
                go_ret2
                refine ⟨_, by rw [HRx.out]; rfl, fun x hx => ?_, Hox.out, Hbx.out, ?_⟩
                · rw [HRx.out] at hx
                  obtain rfl : x7 = x := Option.some.inj hx
                  exact HIx.out
                · have h1 := Hg1.out
                  exact grown_tr (below_grown h1 _) Hgx.out
      · obtain rfl : i = n := by omega
        have HR := Lib.hid (Hall.out Hno.out)
        go_wp2_with fail
        go_ret2
        refine ⟨_, by rw [HR.out]; rfl, fun x hx => (by rw [HR.out] at hx; cases hx), HoA.out, HbA.out, ?_⟩
        have h1 := Hg1.out
        exact grown_tr ⟨h1.os, h1.tape, h1.output, h1.size, fun k hk _ => h1.block k hk⟩ HgA.out
#print axioms firstView_any
end Go.Proofs.Ytpehbffkplmfjaa

/- Contract of firstOrder. -/
import Derived.Test.YtpehbffkplmfjaaClo
namespace Go.Proofs.Ytpehbffkplmfjaa
open Go.RowKit

/-- the first order, out of those left behind those that stand -/
def fo (f : Nat → Nat) : Nat → List Nat → List Nat → Option (List Nat)
  | 0, _, ord => some ord
  | n + 1, left, ord => if idx (free f left) left 0 < 0 then none else fo f n (left.eraseIdx (idx (free f left) left 0).toNat) (ord ++ [left.getD (idx (free f left) left 0).toNat 0])
theorem castN_erase (l : List Nat) (i : Nat) : castN (l.eraseIdx i) = (castN l).eraseIdx i := by
  unfold castN
  rw [List.eraseIdx_eq_take_drop_succ, List.eraseIdx_eq_take_drop_succ, List.map_append, List.map_take, List.map_drop]
theorem castN_getD (l : List Nat) (i : Nat) (h : i < l.length) : (castN l)[i]'(by rw [castN_length]; exact h) = ((l.getD i 0 : Nat) : Int) := by
  simp [castN, List.getD_eq_getElem?_getD, h]
/-- what the loop keeps -/
structure Fst (w0 : World) (pe be pl : Nat) (f : Nat → Nat) (l : List Nat) (w : World) (o v : Value) (left ord : List Nat) : Prop where
  b : Below w0.heap.size w0 w
  e : w.cell? ⟨pe, 0, none⟩ = some (.pointer (some ⟨be, 0, none⟩))
  ed : EdB w be f
  box : Blk w pl 24 1 (fun _ => v)
  vl : OwnInts (w0.heap.size + 1) w v (castN left)
  old : ∀ g, v.ownBlock = some g → g < pl
  ol : OwnInts (pl + 1) w o (castN ord)
  h7 : ∀ x, x ∈ left → x < 7
  len : left.length + ord.length = l.length
  run : fo f l.length l [] = fo f left.length left ord
theorem Fst.keep {w0 : World} {pe be pl : Nat} {f : Nat → Nat} {l : List Nat} {w w' : World} {o v : Value} {left ord : List Nat} (h : Fst w0 pe be pl f l w o v left ord) (hb : Below w.heap.size w w') : Fst w0 pe be pl f l w' o v left ord :=
  ⟨Below.tr h.b hb, Below.keep hb h.e, Blk.keep h.ed hb, h.box.keep hb, h.vl.keep hb, h.old, h.ol.keep hb, h.h7, h.len, h.run⟩
set_option maxRecDepth 100000 in
set_option maxHeartbeats 8000000 in
theorem firstOrder_any {be : Nat} {f : Nat → Nat} (hf : ∀ x, f x < 128) {l : List Nat} (h7 : ∀ x, x ∈ l → x < 7) (hl : l.length ≤ 1000) (v : Value) (w : World) (hE : EdB w be f) (hv : Ints w v (castN l)) :
    Calls Try.prog 54 #[.pointer (some ⟨be, 0, none⟩), v] w fun e w' => ∃ v', e = .returned (.tuple #[v', .bool (fo f l.length l []).isSome]) ∧ Ints w' v' (castN ((fo f l.length l []).getD [])) ∧ Below w.heap.size w w' := by
  have Hb0 := Lib.hid (below_alloc w (.cells #[.pointer (some ⟨be, 0, none⟩)] 73))
  have He0 := Lib.hid (cell_new w #[.pointer (some ⟨be, 0, none⟩)] 73 0)
  have HE0 := Lib.hid (show EdB (w.alloc (.cells #[.pointer (some ⟨be, 0, none⟩)] 73)) be f from Blk.keep hE Hb0.out)
  have HC := Lib.hid (cloneI_any (castN l) v (w.alloc (.cells #[.pointer (some ⟨be, 0, none⟩)] 73)) (by rw [castN_length]; omega) (hv.keep Hb0.out))
  have Hbe := Lib.hid (show be < w.heap.size from hE.lt)
  clear hE hv
  go_enter Try.func54, Try.ntmps54
  go_wp2_with fail
  refine HC.out.mono ?_
  rintro e w1 ⟨v1, rfl, ho, hb⟩
  obtain ⟨a1, c1, rfl⟩ := own_slice ho
  have Ho := Lib.hid ho
  have Hb1 := Lib.hid (Below.tr Hb0.out hb)
  have He1 := Lib.hid (Below.keep hb He0.out)
  have HE1 := Lib.hid (show EdB w1 be f from Blk.keep HE0.out hb)
  have Hz := Lib.hid hb.size
  clear ho hb HC
  go_wp2_with fail
  have HF0 := Lib.hid (show Fst w w.heap.size be w1.heap.size f l (w1.alloc (.cells #[.slice a1 (castN l).length c1] 24)) (.slice none 0 0) (.slice a1 (castN l).length c1) l [] from
    ⟨Below.tr Hb1.out (below_alloc _ _), Below.keep (below_alloc _ _) He1.out, Blk.keep HE1.out (below_alloc _ _), blk_new w1 24 1 (fun _ => .slice a1 (castN l).length c1), by
      have := Ho.out.keep (below_alloc w1 (.cells #[.slice a1 (castN l).length c1] 24))
      rwa [show (w.alloc (.cells #[.pointer (some ⟨be, 0, none⟩)] 73)).heap.size = w.heap.size + 1 by simp] at this,
      fun g hg => (own_lt Ho.out hg).2, ownInts_nil _ _, h7, by simp, rfl⟩)
  have Hwl := Lib.hid (show w.heap.size + 1 ≤ w1.heap.size from by have := Hz.out; simpa using this)
  clear HE1 He1 Hb1 Ho Hz HE0 He0 Hb0 h7
  generalize w1.alloc (.cells #[.slice a1 (castN l).length c1] 24) = w2 at *
  generalize (Value.slice a1 (castN l).length c1) = v1 at *
  generalize w1.heap.size = pl at *
  go_loopw [7] (fun o wr => ∃ v left ord, Fst w w.heap.size be pl f l wr o v left ord) (fun o wr => match wr.cell? ⟨pl, 0, none⟩ with | some (.slice _ n _) => n | _ => 0)
  case atStart => exact ⟨_, _, _, HF0.out⟩
  case round =>
    clear HF0
    obtain ⟨v2, left, ord, hF⟩ := hrel
    have HF := Lib.hid hF
    clear hF
    obtain ⟨a2, c2, hv2⟩ : ∃ a c, v2 = .slice a left.length c := by
      obtain ⟨a2, c2, hv2⟩ := own_slice HF.out.vl
      rw [castN_length] at hv2
      exact ⟨a2, c2, hv2⟩
    subst hv2
    have hbx := HF.out.box.at (show 0 < 1 by omega)
    have hfz := HF.out.box.fz 0
    have Hwr := Lib.hid hbx
    by_cases h0 : left.length = 0
    · have hnil : left = [] := List.length_eq_zero_iff.1 h0
      subst hnil
      have R := Lib.hid (show fo f l.length l [] = some ord from HF.out.run)
      go_wp2_with fail
      go_ret2
      rw [R.out]
      exact ⟨_, rfl, HF.out.ol.ints, HF.out.b⟩
    · obtain ⟨n, hn⟩ : ∃ n, left.length = n + 1 := ⟨left.length - 1, by omega⟩
      have hrun := HF.out.run
      rw [hn, fo] at hrun
      have Hrun := Lib.hid hrun
      have Hn := Lib.hid hn
      clear hrun hn
      have HI := Lib.hid (indexFunc90_any (free f left) left (.slice a2 left.length c2) (.pointer (some ⟨pl, 0, none⟩)) (.pointer (some ⟨w.heap.size, 0, none⟩)) wr HF.out.vl.ints (fun x hx w' hb' =>
        outer_any (Blk.keep HF.out.ed hb') (Below.keep hb' HF.out.e) (Below.keep hb' (HF.out.box.at (show 0 < 1 by omega))) ((HF.out.vl.ints).keep hb') HF.out.h7 (HF.out.h7 x hx) hf))
      have Hsp := Lib.hid (idx_spec (free f left) left 0)
      have Hid0 := Lib.hid (show left.length ≠ 0 by omega)
      have hgt : (left.length : Int) > 0 := by omega
      obtain ⟨z, hz⟩ : ∃ z, z = idx (free f left) left 0 := ⟨_, rfl⟩
      rw [← hz] at HI Hsp Hrun
      clear hz
      by_cases hz0 : z < 0
      · have R := Lib.hid (Hrun.out.trans (if_pos hz0))
        go_wp2_with fail
        refine HI.out.mono ?_
        rintro e w3 ⟨rfl, hb3⟩
        have Hb3 := Lib.hid (Below.tr HF.out.b hb3)
        clear hb3
        go_wp2_with fail
        go_ret2
        rw [R.out]
        exact ⟨_, rfl, ints_nil _, Hb3.out⟩
      · obtain ⟨i, hi, hzi⟩ : ∃ i : Nat, i < left.length ∧ z = (i : Int) := by
          rcases Hsp.out with ⟨h1, _⟩ | ⟨j, hj, he⟩
          · omega
          · exact ⟨j, hj, by rw [he]; omega⟩
        subst hzi
        have R := Lib.hid (Hrun.out.trans (if_neg hz0))
        rw [Int.toNat_natCast] at R
        go_wp2_with fail
        refine HI.out.mono ?_
        rintro e w3 ⟨rfl, hb3⟩
        have HF3 := Lib.hid (HF.out.keep hb3)
        clear hb3 HF HI hbx hfz
        have hbx := HF3.out.box.at (show 0 < 1 by omega)
        have hfz := HF3.out.box.fz 0
        have hvl := HF3.out.vl.ints
        obtain ⟨a3, b3, off3, cap3, hv3, hle3, ha3, hc3⟩ := IntsN.get hvl
        injection hv3 with e1 e2 e3
        subst e1 e3
        have hix := run_ix (P := Try.prog) (t := 24) (a := a2) (len := left.length) (cap := c2) (b := b3) (off := off3) (s := 1) Try.underlying24 (by intro w; kernel_rfl) ha3
        simp only [Nat.mul_one] at hix
        have hixi := hix i
        have hci := hc3 i hi
        have Hlen := Lib.hid HF3.out.len
        have Hor := Lib.hid (show castN (ord ++ [left.getD i 0]) = castN ord ++ [((left.getD i 0 : Nat) : Int)] from by rw [castN_append]; rfl)
        obtain ⟨y, hy⟩ : ∃ y, y = left.getD i 0 := ⟨_, rfl⟩
        rw [← hy] at hci R Hor
        clear hix hc3 ha3 hvl hle3 hy Hrun Hsp e2
        go_wp2_with (at_builtin; refine append_own rfl (.tmp 19) (.tmp 24) 24 rfl elemInts rfl (World.ownsRow.alloc HF3.out.ol _) [.int .i64 y] rfl rfl ?c1 ?c2 ?c3 ?c4 ?_)
        case c1 => intro j u hj; go_simp
        case c2 => intro u hu; simp at hu; subst hu; rfl
        case c3 => have := Hlen.out; rw [castN_length]; omega
        case c4 => have := HF3.out.box.lt; simp; omega
        intro v4 w4 h1 h2 _
        have hpw : pl < w3.heap.size := HF3.out.box.lt
        have hb4 : Below (pl + 1) w3 w4 := ((Below.refl _ _).alloc (by omega) _).trans h2
        have HO4 := Lib.hid (show OwnInts (pl + 1) w4 v4 (castN (ord ++ [y])) from by rw [Hor.out]; exact OwnInts.snoc h1)
        have Hb4 := Lib.hid hb4
        have hblk : Blk w4 pl 24 1 (fun _ => .slice a2 left.length c2) := (hb4.block pl (by omega)).trans HF3.out.box
        have HB4 := Lib.hid hblk
        have hvl4 : OwnInts (w.heap.size + 1) w4 (.slice a2 left.length c2) (castN left) := own_block HF3.out.vl fun g hg => hb4.block g (by have := HF3.out.old g hg; omega)
        have HD := Lib.hid (delete_any hvl4 (i := i) (by rw [castN_length]; exact hi))
        clear h1 h2 hb4 hbx hfz hci hixi hpw
        have hbx := hblk.at (show 0 < 1 by omega)
        have hfz := hblk.fz 0
        clear hblk hvl4
        have hw1 : wrap64 ((i : Int) + 1) = (i : Int) + 1 := by have := Hlen.out; exact IntWalk.wrap64_in ((i : Int) + 1) ⟨by omega, by omega⟩
        go_wp2_with fail
        rw [hw1]
        refine HD.out.mono ?_
        rintro e w5 ⟨v5, rfl, ho5, hg5, hv5⟩
        clear hbx hfz
        have hgl : ∀ g, (Value.slice a2 left.length c2).ownBlock = some g → g < pl := HF3.out.old
        have hsl5 : ∃ a c, v5 = .slice a (left.eraseIdx i).length c := by
          obtain ⟨a5, c5, h⟩ := own_slice ho5
          rw [← castN_erase, castN_length] at h
          exact ⟨a5, c5, h⟩
        obtain ⟨a5, c5, rfl⟩ := hsl5
        have hkp : ∀ k, k < w4.heap.size → (k < w.heap.size ∨ pl ≤ k ∨ k = w.heap.size) → w5.heap[k]? = w4.heap[k]? := by
          intro k hk hor
          refine hg5.block k hk fun e => ?_
          have h1 := hgl k e.symm
          have h2 := (own_lt HF3.out.vl e.symm).1
          omega
        have h34 : w3.heap.size ≤ w4.heap.size := Hb4.out.size
        have hwl := Hwl.out
        have hplw : pl < w3.heap.size := HF3.out.box.lt
        have hb5 : Below w.heap.size w w5 := by
          have h4 : Below w.heap.size w w4 := HF3.out.b.trans (Hb4.out.mono (by omega))
          exact ⟨hg5.os.trans h4.os, hg5.tape.trans h4.tape, hg5.output.trans h4.output, Nat.le_trans h4.size hg5.size, fun k hk => (hkp k (Nat.lt_of_lt_of_le hk h4.size) (.inl hk)).trans (h4.block k hk)⟩
        have hbox5 : Blk w5 pl 24 1 (fun _ => .slice a2 left.length c2) := (hkp pl (by omega) (.inr (.inl (Nat.le_refl _)))).trans HB4.out
        have HF5 := Lib.hid (show Fst w w.heap.size be pl f l (w5.setCell ⟨pl, 0, none⟩ (.slice a5 (left.eraseIdx i).length c5)) v4 (.slice a5 (left.eraseIdx i).length c5) (left.eraseIdx i) (ord ++ [y]) from by
          have hne : w.heap.size ≠ pl := by have := Hwl.out; omega
          have hne2 : be ≠ pl := by have := Hbe.out; have := Hwl.out; omega
          refine ⟨hb5.setCell (p := ⟨pl, 0, none⟩) (show w.heap.size ≤ pl by omega) _, ?_, ?_, ?_, ?_, ?_, ?_, ?_, ?_, ?_⟩
          · rw [cell_other (b := w.heap.size) (b2 := pl) hne]
            refine (World.cell?_of_block (hkp w.heap.size (by have := Hwl.out; omega) (.inr (.inr rfl)))).trans ?_
            exact (World.cell?_of_block (Hb4.out.block w.heap.size (by have := Hwl.out; omega))).trans HF3.out.e
          · have h4 : EdB w4 be f := (Hb4.out.block be (by have := Hbe.out; have := Hwl.out; omega)).trans HF3.out.ed
            have h5 : EdB w5 be f := (hkp be (by have := Hbe.out; omega) (.inl Hbe.out)).trans h4
            exact Blk.other h5 hne2 _
          · refine (hbox5.put 0 _).congr fun j hj => ?_
            rw [if_pos (by omega)]
          · rw [castN_erase]
            refine own_block ho5 fun g hg => ?_
            rw [hv5] at hg
            have := hgl g hg
            exact heap_setCell_other w5 ⟨pl, 0, none⟩ g _ (show g ≠ pl by omega)
          · intro g hg
            rw [hv5] at hg
            exact hgl g hg
          · refine own_block HO4.out fun g hg => ?_
            have hgg := own_lt HO4.out hg
            rw [heap_setCell_other w5 ⟨pl, 0, none⟩ g _ (show g ≠ pl by omega)]
            exact hkp g hgg.2 (.inr (.inl (by omega)))
          · intro x hx
            exact HF3.out.h7 x (List.mem_of_mem_eraseIdx hx)
          · have := Hlen.out
            rw [List.length_eraseIdx, if_pos hi, List.length_append]
            simp only [List.length_cons, List.length_nil]
            omega
          · rw [R.out]
            congr 1
            rw [List.length_eraseIdx, if_pos hi]
            have := Hn.out
            omega)
        have Hm := Lib.hid (show (left.eraseIdx i).length < left.length from by rw [List.length_eraseIdx, if_pos hi]; omega)
        have hfz := hbox5.fz 0
        have hbx := hbox5.at (show 0 < 1 by omega)
        have Hms := Lib.hid (show (w5.setCell ⟨pl, 0, none⟩ (.slice a5 (left.eraseIdx i).length c5)).cell? ⟨pl, 0, none⟩ = some (.slice a5 (left.eraseIdx i).length c5) from HF5.out.box.at (by omega))
        have Hme := Lib.hid (show wr.cell? ⟨pl, 0, none⟩ = some (.slice a2 left.length c2) from Hwr.out)
        clear ho5 hg5 hv5 hgl hkp hb5 hbox5 hwl h34 hplw
        go_wp2_with fail
        go_roundw
        case rel => exact ⟨_, _, _, HF5.out⟩
        case measure =>
          have h1 := Hms.out
          have h2 := Hme.out
          have h3 := Hm.out
          rw [h1, h2]
          exact h3
#print axioms firstOrder_any
end Go.Proofs.Ytpehbffkplmfjaa

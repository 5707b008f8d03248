/- Contracts of suffixes' closure and of suffixes. -/
import Derived.Test.YtbnlkmblkokooaaLab
import Derived.Test.YtbnlkmblkokooaaShelf
import Derived.Sort.OwnSortedInts
namespace Go.Proofs.Ytbnlkmblkokooaa
open Go.RowKit Go.Sort

/-! ### the row of ints under numbers of a bounded type -/
def encF (n : Nat) (i : Fin (n + 1)) : Value := .int .i64 ((i.val : Nat) : Int)
def valsF {n : Nat} (d : Array (Fin (n + 1))) : List Int := castN (d.toList.map (·.val))
theorem valsF_length {n : Nat} (d : Array (Fin (n + 1))) : (valsF d).length = d.size := by simp [valsF, castN]
theorem valsF_get {n : Nat} (d : Array (Fin (n + 1))) {j : Nat} (h : j < d.size) : (valsF d).toArray[j]! = ((d[j]!).val : Int) := by
  rw [getElem!_pos _ j (by simpa [valsF_length] using h), getElem!_pos d j h]
  simp [valsF, castN]
theorem putRow_F {n : Nat} (w : World) (b o : Nat) (d : Array (Fin (n + 1))) : putRow (encF n) w b o d = putRow (Value.int .i64) w b o (valsF d).toArray := by
  unfold putRow putCells
  congr 1
  funext c
  apply Array.ext
  · simp
  · intro i h1 h2
    simp only [Array.getElem_mapIdx, List.size_toArray, valsF_length]
    by_cases h : o ≤ i ∧ i < o + d.size
    · rw [if_pos h, if_pos h, valsF_get d (by omega)]; rfl
    · rw [if_neg h, if_neg h]
theorem holds_F {n : Nat} {w : World} {b o : Nat} {d : Array (Fin (n + 1))} (h : Holds (Value.int .i64) w b o (valsF d).toArray) : Holds (encF n) w b o d := by
  intro j hj
  have := h j (by simpa [valsF_length] using hj)
  rw [valsF_get d hj] at this
  exact this
/-- all numbers to n -/
def idF (n : Nat) : Array (Fin (n + 1)) := Array.ofFn fun i => i
theorem idF_size (n : Nat) : (idF n).size = n + 1 := by simp [idF]
theorem idF_vals (n : Nat) : (idF n).toList.map (·.val) = List.range (n + 1) := by
  apply List.ext_getElem
  · simp [idF]
  · intro i h1 h2
    simp only [List.getElem_map, Array.getElem_toList, List.getElem_range]
    unfold idF
    rw [Array.getElem_ofFn]
theorem ext_self {α : Type} (d : Array α) (n : Nat) (h : d.size = n) : d.extract 0 n = d := by subst h; simp
/-- how the sort compares -/
def cfS (l : Bs) (n : Nat) (i j : Fin (n + 1)) : Int := Lib.compareBytes (l.drop i.val) (l.drop j.val)
theorem ltS (l : Bs) (n : Nat) (i j : Fin (n + 1)) : ltOf (cfS l n) i j = lss (l.drop i.val) (l.drop j.val) := cmp_neg _ _
theorem swoS (l : Bs) (n : Nat) : SWO (ltOf (cfS l n)) where
  irrefl i := by rw [ltS]; exact lss_irr _
  trans i j k h g := by rw [ltS] at *; exact lss_tr h g
  ntrans i j k h g := by
    rw [ltS] at *
    cases e : lss (l.drop i.val) (l.drop k.val) with
    | false => rfl
    | true =>
      rcases lss_tri (l.drop i.val) (l.drop j.val) with a | a | a
      · rw [a] at h; cases h
      · rw [a] at e; rw [e] at g; cases g
      · have := lss_tr a e; rw [this] at g; cases g
/-- what comes out of the sort is the suffix array -/
theorem sorted_sa {l : Bs} {n : Nat} (hn : n = l.length) {d : Array (Fin (n + 1))} (hp : PermIn 0 (n + 1) (idF n) d) (hs : SortedIn (ltOf (cfS l n)) 0 (n + 1) d) : d.toList.map (·.val) = sa l := by
  subst hn
  obtain ⟨h1, _, h3⟩ := hp
  rw [idF_size] at h1
  have e1 : d.extract 0 (l.length + 1) = d := ext_self _ _ h1
  have e2 : (idF l.length).extract 0 (l.length + 1) = idF l.length := ext_self _ _ (idF_size _)
  rw [e1, e2] at h3
  have hperm : (d.toList.map (·.val)).Perm (List.range (l.length + 1)) := by rw [← idF_vals]; exact h3.map _
  refine isSa_unique ⟨hperm, ?_⟩ (sa_is l)
  have hnd : (d.toList.map (·.val)).Nodup := hperm.nodup_iff.2 List.nodup_range
  rw [List.pairwise_iff_getElem]
  intro i j hi hj hij
  simp only [List.length_map, Array.length_toList] at hi hj
  have := hs i j (Nat.zero_le _) hij (by omega)
  rw [ltS, getElem!_pos d i hi, getElem!_pos d j hj] at this
  simp only [List.getElem_map, Array.getElem_toList]
  have hne : d[i].val ≠ d[j].val := fun e => by
    have := (List.pairwise_iff_getElem.1 hnd) i j (by simpa using hi) (by simpa using hj) hij
    simp only [List.getElem_map, Array.getElem_toList] at this
    exact this e
  have b1 := d[i].isLt
  have b2 := d[j].isLt
  rcases sl_tri (l := l) (i := d[i].val) (j := d[j].val) (by omega) (by omega) with g | g | g
  · exact g
  · exact absurd g hne
  · unfold sl at g; rw [this] at g; cases g
/-- the closure -/
theorem closure_any (s : ByteArray) (i j : Nat) (hi : i ≤ s.size) (hj : j ≤ s.size) (b : Nat) (W : World) (hb : W.cell? ⟨b, 0, none⟩ = some (.string s)) :
    Calls Try.prog 77 #[.int .i64 i, .int .i64 j, .pointer (some ⟨b, 0, none⟩)] W fun e w' => e = .returned (.int .i64 (Lib.compareBytes ((bs s).drop i) ((bs s).drop j))) ∧ ∃ q, w' = W.drewN q := by
  obtain ⟨C, hC⟩ : ∃ C, C = Lib.compareBytes ((bs s).drop i) ((bs s).drop j) := ⟨_, rfl⟩
  rw [← hC]
  have hcon := fun W => Try.strings_Compare (s.extract i s.size) (s.extract j s.size) W
  have e1 : Lib.compareBytes (s.extract i s.size).data.toList (s.extract j s.size).data.toList = C := by rw [hC, ← bs_drop, ← bs_drop]; rfl
  rw [e1] at hcon
  have HC := Lib.hid hcon
  clear hC e1 hcon
  go_enter Try.func77, Try.ntmps77
  go_wp2_with fail
  go_quiet ((go_at_call 78; exact Calls.quiet_of_same (HC.out _)))
  go_wp2_with fail
  go_ret
  exact ⟨rfl, _, rfl⟩

/-- slices.SortFunc over the closure -/
theorem sortF_any (s : ByteArray) (hs : s.size ≤ 1000) (bx g cap : Nat) (w : World) (hbx : w.cell? ⟨bx, 0, none⟩ = some (.string s)) (hne : bx ≠ g) (hg : g < w.heap.size) (hH : Holds (Value.int .i64) w g 0 (castN (List.range (s.size + 1))).toArray) :
    Calls Try.prog 76 #[.slice (some ⟨g, 0, none⟩) (s.size + 1) cap, .func (.func 77) #[] #[.pointer (some ⟨bx, 0, none⟩)]] w fun e w' =>
      e = .returned (.tuple #[]) ∧ ∃ n os, w' = grow (putRow (Value.int .i64) (Sort.ahead w n) g 0 (castN (sa (bs s))).toArray) os := by
  have eg : ∀ args w, (callFunc 77 args).run Try.prog w = .ok (.enter 77 args) w := enters_of Try.func77 (by kernel_rfl) rfl
  have hcmp : CmpReads Try.prog 77 #[.pointer (some ⟨bx, 0, none⟩)] (encF s.size) (cfS (bs s) s.size) g 0 (idF s.size).size w := by
    intro m os dk hdk x y
    have b1 := x.isLt
    have b2 := y.isLt
    exact closure_any s x.val y.val (by omega) (by omega) bx _ (by
      unfold sortWorld
      rw [cell?_grow _ _ _ (by simp [putRow, mapBlock, Sort.ahead]; exact cell_lt hbx), cell?_putRow_other _ _ _ _ _ _ (.inl hne)]
      exact hbx)
  have hH' : Holds (encF s.size) w g 0 (idF s.size) := holds_F (by
    have : valsF (idF s.size) = castN (List.range (s.size + 1)) := by unfold valsF; rw [idF_vals]
    rw [this]; exact hH)
  have h := Try.slices_SortFunc (encF s.size) (fun _ => rfl) (cfS (bs s) s.size) (swoS _ _) 77 #[.pointer (some ⟨bx, 0, none⟩)] g 0 cap (idF s.size) w eg hcmp.lays hH' hg (by rw [idF_size]; omega)
  rw [idF_size] at h
  refine h.mono ?_
  rintro e w' ⟨he, d', n, os, hp, hso, rfl⟩
  refine ⟨he, n, os, ?_⟩
  unfold sortWorld
  rw [putRow_F, valsF, sorted_sa (by rw [bs_len]) hp hso]

def upRow (n j : Nat) : List Int := (List.range n).map fun i => if i < j then (i : Int) else 0
theorem upRow_length (n j : Nat) : (upRow n j).length = n := by simp [upRow]
theorem upRow_zero (n : Nat) : upRow n 0 = List.replicate n 0 := by
  apply List.ext_getElem (by simp [upRow])
  intro i h1 h2
  simp [upRow]
theorem upRow_full (n : Nat) : upRow n n = castN (List.range n) := by
  apply List.ext_getElem (by simp [upRow, castN])
  intro i h1 h2
  simp only [upRow_length] at h1
  simp [upRow, castN, h1]
theorem upRow_set (n j : Nat) : (upRow n j).set j (j : Int) = upRow n (j + 1) := by
  apply List.ext_getElem (by simp [upRow])
  intro i h1 h2
  simp only [List.length_set, upRow_length] at h1
  rw [List.getElem_set]
  by_cases e : j = i
  · subst e; simp [upRow]
  · rw [if_neg e]
    simp only [upRow, List.getElem_map, List.getElem_range]
    by_cases e2 : i < j
    · rw [if_pos e2, if_pos (by omega)]
    · rw [if_neg e2, if_neg (by omega)]
def UpRow (w : World) (base blk n j : Nat) : Prop := w.ownsRow base 3 1 (.slice (some ⟨blk, 0, none⟩) n n) n ((upRow n j).map (Value.int .i64))
theorem UpRow.holds {w : World} {base blk n : Nat} (h : UpRow w base blk n n) : base ≤ blk ∧ blk < w.heap.size ∧ Holds (Value.int .i64) w blk 0 (castN (List.range n)).toArray ∧
    ∀ (l : List Int) k os, l.length = n → OwnInts base (grow (putRow (Value.int .i64) (Sort.ahead w k) blk 0 l.toArray) os) (.slice (some ⟨blk, 0, none⟩) n n) l := by
  unfold UpRow at h
  rw [upRow_full] at h
  rcases h.2 with ⟨h0, _⟩ | ⟨g, cap, cur, hv, hbg, hg, hnc, hcm, hcs, htake⟩
  · simp at h0
  · injection hv with e1 e2 e3
    injection e1 with e1
    injection e1 with e1
    subst e1; subst e3
    rw [Nat.mul_one] at htake
    have hlen : (castN (List.range n)).length = n := by simp [castN]
    refine ⟨hbg, (Array.getElem?_eq_some_iff.1 hg).1, holds_of_blockI hg (by rw [hlen]; exact htake), fun l k os hl => ?_⟩
    have := ownsRow_sortedI (w := w) (n := k) (os := os) (ss := castN (List.range n)) (ts := l) (by rw [hlen, hl]) hbg hg (by rw [hlen]; exact hnc) hcm hcs
    unfold OwnInts
    rw [hlen] at this
    rw [hl]
    exact this
theorem makeInts_row {base n : Nat} {w3 : World} {B : Nat} (hown : w3.ownsRow base 3 1 (.slice (some ⟨B, 0, none⟩) n n) n (madeCells (Value.int IntKind.i64 0).cells (n * 1)).toList) : UpRow w3 base B n 0 := by
  have e : (madeCells (Value.int IntKind.i64 0).cells (n * 1)).toList = (upRow n 0).map (Value.int .i64) := by
    rw [Nat.mul_one, upRow_zero]
    show (madeCells #[Value.int .i64 0] n).toList = _
    rw [toList_madeCells_one, List.map_replicate]
  rw [e] at hown
  exact hown
theorem infoInt' : ∃ i0, Try.prog.info? 3 = some i0 ∧ i0.zero = some (.int .i64 0) ∧ i0.size = 1 ∧ i0.bytes = 8 := by
  have := infoInt
  cases h : Try.prog.info? 3 with
  | none => rw [h] at this; cases this
  | some i0 => rw [h] at this; simp only [Option.map_some, Option.some.injEq, Prod.mk.injEq] at this; exact ⟨i0, rfl, this⟩
set_option maxRecDepth 100000 in
set_option maxHeartbeats 4000000 in
theorem suffixes_any (s : ByteArray) (hs : s.size ≤ 1000) (w : World) :
    Calls Try.prog 54 #[.string s] w fun e w' => ∃ v', e = .returned v' ∧ OwnInts w.heap.size w' v' (castN (sa (bs s))) ∧ Below w.heap.size w w' := by
  obtain ⟨i0, hi, hz0, hz1, hz2⟩ := infoInt'
  obtain ⟨n, hn⟩ : ∃ n, n = s.size + 1 := ⟨_, rfl⟩
  have HN := Lib.hid hn
  have hn1 : n ≤ 1001 := by omega
  have hnI : IntKind.i64.wrap ((s.size : Int) + 1) = (n : Int) := by rw [IntWalk.i64_in _ ⟨by omega, by omega⟩]; omega
  have Hi := Lib.hid hi
  have Hz0 := Lib.hid hz0
  have Hz1 := Lib.hid hz1
  have Hby := Lib.hid (show i0.bytes * n ≤ 281474976710656 by rw [hz2]; omega)
  clear hi hz0 hz1 hz2 hn
  go_enter Try.func54, Try.ntmps54
  go_wp2_with (refine wpList_make_full _ rfl (.tmp 7) (.tmp 7) 23 rfl (w.heap.size + 1) 3 i0 (.int .i64 0) 1 Try.underlying23 Hi.out Hz0.out Hz1.out .i64 .i64 _ _ n rfl rfl rfl rfl Hby.out (by unfold maxLen; omega) (by simp) ?_; intro w3 hown hg)
  have hsz : (w.alloc (.cells #[.string s] 9)).heap.size = w.heap.size + 1 := by simp
  rw [hsz] at hown
  have Hrow := Lib.hid (makeInts_row hown)
  have Hbx := Lib.hid (show w3.cell? ⟨w.heap.size, 0, none⟩ = some (.string s) from by
    have := cell_new w #[.string s] 9 0
    have hk : w3.cell? ⟨w.heap.size, 0, none⟩ = (w.alloc (.cells #[.string s] 9)).cell? ⟨w.heap.size, 0, none⟩ := by
      unfold World.cell?
      rw [hg.block w.heap.size (by rw [hsz]; omega) (by simp)]
    rw [hk, this]; rfl)
  have Hb3 := Lib.hid (show Below (w.heap.size + 1) (w.alloc (.cells #[.string s] 9)) w3 from ⟨hg.os, hg.tape, hg.output, hg.size, fun k hk => hg.block k (by rw [hsz]; omega) (by simp)⟩)
  have hix' := run_ix (P := Try.prog) (t := 23) (a := some ⟨w.heap.size + 1, 0, none⟩) (len := n) (cap := n) (b := w.heap.size + 1) (off := 0) (s := 1) Try.underlying23 (by intro w; kernel_rfl) (fun _ => rfl)
  simp only [Nat.mul_one, Nat.zero_add] at hix'
  have Hix' := Lib.hid hix'
  have Hw1 := Lib.hid (below_alloc w (.cells #[.string s] 9))
  clear hown hg hix' hsz
  generalize w.alloc (.cells #[.string s] 9) = wa at *
  go_wp2_with fail
  go_loopw [11] (fun i wr => ∃ j : Nat, i = .int .i64 j ∧ j ≤ n ∧ Below (w.heap.size + 1) w3 wr ∧ UpRow wr (w.heap.size + 1) (w.heap.size + 1) n j) (fun i _ => n - (intOf i).toNat)
  case atStart => exact ⟨0, rfl, Nat.zero_le _, Below.refl _ _, Hrow.out⟩
  case round =>
    obtain ⟨j, rfl, hj, hb', hown'⟩ := hrel
    have Hb' := Lib.hid hb'
    have Hown' := Lib.hid hown'
    clear hb' hown'
    by_cases hltj : j < n
    · have hixj := Hix'.out j
      have hfz := World.ownsRow.frozenAt Hown'.out j
      have hcell := World.ownsRow.cellAt Hown'.out j (by omega)
      rw [List.getElem?_map, List.getElem?_eq_getElem (by rw [upRow_length]; exact hltj), Option.map_some] at hcell
      have hst := (World.ownsRow.stored Hown'.out j (.int .i64 (j : Nat)))
      have HR := Lib.hid (show UpRow (wr.setCell ⟨w.heap.size + 1, j, none⟩ (.int .i64 (j : Nat))) (w.heap.size + 1) (w.heap.size + 1) n (j + 1) by unfold UpRow; rw [← upRow_set, List.map_set]; exact hst.1)
      clear hst
      go_wp2_with fail
      go_roundw
      case rel => exact ⟨j + 1, by go_num, by omega, Hb'.out.setCell (Nat.le_refl _) _, HR.out⟩
      case measure => simp [intOf]; omega
    · obtain rfl : j = n := by omega
      obtain ⟨_, hg, hH, hO⟩ := Hown'.out.holds
      have hbx : wr.cell? ⟨w.heap.size, 0, none⟩ = some (.string s) := (Hb'.out.cell (by simp)).trans Hbx.out
      obtain rfl : j = s.size + 1 := HN.out
      have HS := Lib.hid (sortF_any s hs w.heap.size (w.heap.size + 1) (s.size + 1) wr hbx (by omega) hg hH)
      have HO := Lib.hid hO
      have Hg := Lib.hid hg
      clear hbx hg hH hO
      go_wp2_with fail
      refine HS.out.mono ?_
      rintro e w4 ⟨rfl, k, os, hw⟩
      have HW := Lib.hid hw
      clear hw
      go_wp2_with fail
      go_ret
      exact ⟨_, rfl, by
        rw [HW.out]
        exact OwnInts.base (HO.out (castN (sa (bs s))) k os (by rw [castN_length, sa_length, bs_len])) (by omega), by
        rw [HW.out]
        have hgr := grownBy_sortedI (w := wr) (g := w.heap.size + 1) (n := k) (os := os) (castN (sa (bs s))).toArray
        have h4 : Below (w.heap.size + 1) wr (grow (putRow (Value.int .i64) (Sort.ahead wr k) (w.heap.size + 1) 0 (castN (sa (bs s))).toArray) os) := ⟨hgr.os, hgr.tape, hgr.output, hgr.size, fun q hq => hgr.block q (by have := Hg.out; omega) (by simp; omega)⟩
        exact Hw1.out.trans (((Hb3.out.trans Hb'.out).trans h4).mono (by omega))⟩
#print axioms suffixes_any
end Go.Proofs.Ytbnlkmblkokooaa

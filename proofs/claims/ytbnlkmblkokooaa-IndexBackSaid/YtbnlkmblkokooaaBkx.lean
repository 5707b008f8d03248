/- Rows of bytes for the law of Back: new ones, appended to, sorted, compared. -/
import Derived.Test.YtbnlkmblkokooaaBsk
import Derived.Test.YtbnlkmblkokooaaTrr
import Derived.Test.YtbnlkmblkokooaaLts
import Derived.Deep.Upon
import Derived.ArgAppend
import Derived.Deep.AppendLies
namespace Go.Proofs.Ytbnlkmblkokooaa
open Go.RowKit
open Go.Sort (PermIn SortedIn)
set_option maxHeartbeats 2000000 in
theorem equalB_yes (x : Bs) (v u : Value) (w : World) (hv : Byts w v x) (hu : Byts w u x) :
    Calls Try.prog 50 #[v, u] w fun e w' => e = .returned (.bool true) ∧ Below w.heap.size w w' := by
  obtain ⟨a, b, off, cap, rfl, hle, ha, hc⟩ := Byts.get hv
  obtain ⟨a', b', off', cap', rfl, hle', ha', hc'⟩ := Byts.get hu
  have hix := run_ix (P := Try.prog) (t := 53) (a := a) (len := x.length) (cap := cap) (b := b) (off := off) (s := 1) Try.underlying53 (by intro w; kernel_rfl) ha
  have hix' := run_ix (P := Try.prog) (t := 53) (a := a') (len := x.length) (cap := cap') (b := b') (off := off') (s := 1) Try.underlying53 (by intro w; kernel_rfl) ha'
  simp only [Nat.mul_one] at hix hix'
  have Hc := Lib.hid hc
  have Hc' := Lib.hid hc'
  have Hix := Lib.hid hix
  have Hix' := Lib.hid hix'
  clear ha ha' hv hu hc hc' hix hix'
  go_enter Try.func50, Try.ntmps50
  go_wp2
  go_loopw [13] (fun i wr => ∃ k : Nat, i = .int .i64 k ∧ k ≤ x.length ∧ Below w.heap.size w wr) (fun i _ => x.length - (intOf i).toNat)
  case atStart => exact ⟨0, rfl, Nat.zero_le _, Below.refl _ _⟩
  case round =>
    obtain ⟨k, rfl, hk, hb⟩ := hrel
    have HB := Lib.hid hb
    by_cases hlt : k < x.length
    · have hc1 := Below.keep hb (Hc.out k hlt)
      have hc2 := Below.keep hb (Hc'.out k hlt)
      have hi1 := fun w => Hix.out k w hlt
      have hi2 := fun w => Hix'.out k w hlt
      clear hb
      go_wp2_with fail
      go_quiet (fail)
      go_wp2_with fail
      go_roundw
      case rel => exact ⟨k + 1, by go_num, by omega, bdrewN HB.out _⟩
      case measure => simp [intOf]; omega
    · obtain rfl : k = x.length := by omega
      clear hb
      go_wp2_with fail
      go_ret
      exact ⟨rfl, HB.out⟩
#print axioms equalB_yes
theorem Rw.other {w w' : World} {blk off g : Nat} {d : Array Int} (h : Rw w blk off d w') (hg : g < w.heap.size) (hne : g ≠ blk) : w'.heap[g]? = w.heap[g]? := by
  obtain ⟨n, os, rfl⟩ := h
  rw [Go.Sort.heap_grow_old _ _ (by simpa using hg)]
  have : blk ≠ g := fun e => hne e.symm
  simp [Go.Sort.putRow, Go.Sort.mapBlock, Go.Sort.ahead, Array.getElem?_modify, this]
theorem Rw.below {w w' : World} {blk off B : Nat} {d : Array Int} (h : Rw w blk off d w') (hb : B ≤ blk) (hB : B ≤ w.heap.size) : Below B w w' := by
  have h0 := h.size
  refine ⟨?_, ?_, ?_, h0, fun q hq => h.other (by omega) (by omega)⟩
  all_goals (obtain ⟨n, os, rfl⟩ := h; rfl)
theorem RowAt.heap {w w' : World} {b off : Nat} {d : Array Int} (h : RowAt w b off d) (he : w'.heap[b]? = w.heap[b]?) (hs : w.heap.size ≤ w'.heap.size) : RowAt w' b off d := by
  refine ⟨fun j hj => ?_, by have := h.2.1; omega, h.2.2⟩
  have := h.1 j hj
  unfold World.cell? World.frozen? at *
  simp only [he]
  exact this
theorem row_at {w : World} {b off cap : Nat} {d : Array Int} {l : Bs} (h : RowAt w b off d) (hd : d.size = l.length) (hc : l.length ≤ cap) (hl : l.length ≤ 1000000) (he : d.toList = castB l) : Byts w (.slice (some ⟨b, off, none⟩) l.length cap) l := by
  refine ⟨by rw [bcells_len, Nat.mul_one], by unfold maxLen; omega, some ⟨b, off, none⟩, b, off, cap, rfl, ⟨fun _ => rfl, hc⟩, fun j hj => ?_⟩
  rw [bcells_len] at hj
  have hv : d[j]! = (l[j].toNat : Int) := by
    rw [getElem!_pos d j (by omega), ← Array.getElem_toList]
    simp only [he, castB, List.getElem_map]
  rw [h.cell (by omega), hv]
  simp [Lib.byteCells]
/-- the bytes of a string in a new block, with what is behind them -/
theorem new_came (S : ByteArray) (cap : Nat) (w : World) (hcap : S.size ≤ cap) (fz : Nat × Nat) (hfz : cap ≤ fz.1) :
    Came (w.alloc (.cells (bytesRow S cap) 5 fz)) 1 (some ⟨w.heap.size, 0, none⟩) w.heap.size 0 S.size cap (Lib.byteCells (bs S)) := by
  have hn := heap_alloc_new w (.cells (bytesRow S cap) 5 fz)
  have hsz : (bytesRow S cap).size = cap := by unfold bytesRow; simp; omega
  refine ⟨hcap, fun _ => rfl, fun _ => by simp, by rw [bcells_len, bs_len, Nat.mul_one], fun j u hj => ?_, fun j hj => ⟨?_, ?_⟩⟩
  · have hjl : j < S.size := by have := (List.getElem?_eq_some_iff.1 hj).1; rwa [bcells_len, bs_len] at this
    have h1 : j < (S.data.map (fun b => Value.int .u8 b.toNat)).size := by simpa using hjl
    simp only [World.cell?, hn, Nat.zero_add]
    unfold bytesRow
    simp only [Option.isSome_none, Bool.false_eq_true, if_false]
    rw [Array.getElem?_append_left h1]
    have hj2 : j < S.data.size := hjl
    rw [← hj]
    simp [Lib.byteCells, bs, Array.getElem?_eq_getElem hj2]
  · simp only [World.cell?, hn]
    simp only [Option.isSome_none, Bool.false_eq_true, if_false]
    rw [Array.getElem?_eq_getElem (by rw [hsz]; omega)]
    rfl
  · obtain ⟨lo, hi⟩ := fz
    simp only [World.frozen?, hn]
    simp only at hfz
    simp
    omega
theorem new_row' (S : ByteArray) (cap : Nat) (w : World) (hs : S.size ≤ 1000) (hcap : S.size ≤ cap) (fz : Nat × Nat) (hfz : cap ≤ fz.1) :
    RowAt (w.alloc (.cells (bytesRow S cap) 5 fz)) w.heap.size 0 (castB (bs S)).toArray := by
  have hl : (castB (bs S)).toArray.size = S.size := by simp [castB, bs_len]
  have hn := heap_alloc_new w (.cells (bytesRow S cap) 5 fz)
  have hc := new_came S cap w hcap fz hfz
  refine ⟨fun j hj => ⟨?_, ?_⟩, by simp, by rw [hl]; omega⟩
  · rw [hl] at hj
    have h := hc.olds j (.int .u8 ((bs S)[j]'(by rw [bs_len]; exact hj)).toNat) (by simp [Lib.byteCells, bs_len, hj])
    rw [h, getElem!_pos _ _ (by rw [hl]; exact hj)]
    simp [castB]
  · rw [hl] at hj
    obtain ⟨lo, hi⟩ := fz
    simp only [World.frozen?, hn]
    simp only at hfz
    simp
    omega
#print axioms new_row'
theorem castB_inv' : ∀ {d : List Int} {l : Bs}, d.Perm (castB l) → ∃ m : Bs, d = castB m ∧ m.Perm l := by
  intro d l h
  refine ⟨d.map fun x => UInt8.ofNat x.toNat, ?_, ?_⟩
  · have hb : ∀ x ∈ d, ∃ c : UInt8, (c.toNat : Int) = x := fun x hx => by
      have := h.mem_iff.1 hx
      unfold castB at this
      obtain ⟨c, _, e⟩ := List.mem_map.1 this
      exact ⟨c, e⟩
    unfold castB
    rw [List.map_map]
    conv => lhs; rw [← List.map_id d]
    refine List.map_congr_left fun x hx => ?_
    obtain ⟨c, rfl⟩ := hb x hx
    simp
  · have := h.map fun x : Int => UInt8.ofNat x.toNat
    unfold castB at this
    rw [List.map_map] at this
    have e : l.map ((fun x : Int => UInt8.ofNat x.toNat) ∘ fun c : UInt8 => (c.toNat : Int)) = l := by
      conv => rhs; rw [← List.map_id l]
      exact List.map_congr_left fun c _ => by simp
    rwa [e] at this
/-- two sorted permutations of the same bytes are the same -/
theorem srt_same {a b : Array Int} {l m : Bs} (h : l.Perm m) (ha : a.size = l.length) (hb : b.size = m.length) (pa : PermIn 0 a.size (castB l).toArray a) (pb : PermIn 0 b.size (castB m).toArray b) (sa : SortedIn ltI 0 a.size a) (sb : SortedIn ltI 0 b.size b) :
    a.toList = b.toList ∧ ∃ r : Bs, a.toList = castB r ∧ r.length = l.length := by
  have hla : (castB l).toArray.size = a.size := by simp [castB, ha]
  have hlb : (castB m).toArray.size = b.size := by simp [castB, hb]
  have e : ∀ A : Array Int, A.extract 0 A.size = A := fun A => by simp
  have p1 : a.toList.Perm (castB l) := by
    have := pa.2.2
    rw [e a] at this
    have e2 : ((castB l).toArray.extract 0 a.size) = (castB l).toArray := by rw [← hla]; exact e _
    rw [e2] at this
    exact this
  have p2 : b.toList.Perm (castB m) := by
    have := pb.2.2
    rw [e b] at this
    have e2 : ((castB m).toArray.extract 0 b.size) = (castB m).toArray := by rw [← hlb]; exact e _
    rw [e2] at this
    exact this
  have srt : ∀ A : Array Int, SortedIn ltI 0 A.size A → A.toList.Pairwise (· ≤ ·) := fun A hA => by
    rw [List.pairwise_iff_getElem]
    intro i j hi hj hij
    have := hA i j (Nat.zero_le _) hij (by simpa using hj)
    rw [getElem!_pos A j (by simpa using hj), getElem!_pos A i (by simpa using hi)] at this
    unfold ltI Go.Sort.ltInt at this
    rw [decide_eq_false_iff_not] at this
    rw [Array.getElem_toList, Array.getElem_toList]
    omega
  refine ⟨?_, ?_⟩
  · have p3 : a.toList.Perm b.toList := p1.trans ((h.map _).trans p2.symm)
    exact p3.eq_of_pairwise (le := fun x y : Int => x ≤ y) (fun x y _ _ h1 h2 => Int.le_antisymm h1 h2) (srt a sa) (srt b sb)
  · obtain ⟨r, hr, hrl⟩ := castB_inv' p1
    exact ⟨r, hr, hrl.length_eq⟩
#print axioms srt_same
/-- a byte 10 more behind bytes -/
def Ten (w : World) (b : Nat) (l : Bs) (v' : Value) (w' : World) : Prop := ∃ g cap', v' = .slice (some ⟨g, 0, none⟩) (l.length + 1) cap' ∧ l.length + 1 ≤ cap' ∧ RowAt w' g 0 (castB (l ++ [10])).toArray ∧ (g = b ∨ w.heap.size ≤ g) ∧ (∀ q, q < w.heap.size → q ≠ b → w'.heap[q]? = w.heap[q]?) ∧ w'.os = w.os ∧ w'.tape = w.tape ∧ w'.output = w.output ∧ w.heap.size ≤ w'.heap.size
theorem cells_ten {l : Bs} {j : Nat} (hj : j < l.length + 1) : (Lib.byteCells l ++ [Value.int .u8 10])[j]? = some (.int .u8 (castB (l ++ [10])).toArray[j]!) := by
  have hl : (castB (l ++ [10])).toArray.size = l.length + 1 := by simp [castB]
  rw [getElem!_pos _ _ (by rw [hl]; exact hj)]
  have e : Lib.byteCells l ++ [Value.int .u8 10] = Lib.byteCells (l ++ [10]) := by simp [Lib.byteCells]
  rw [e]
  have hj' : j < (l ++ [10]).length := by simp; omega
  simp only [Lib.byteCells, List.getElem?_map, List.getElem?_eq_getElem hj', Option.map_some, List.getElem_toArray, castB, List.getElem_map]
theorem append_ten {ops : Array Oper} {rest : List Oper} {o : Oper} {a : Act} {Q : Exit → Act → World → Prop} {w : World} (hgd : o.guard = none) (s x : Operand)
    (ho : o.op = .call { callee := .builtin .append, args := #[s, x], argTypes := #[53, 53] })
    {b cap : Nat} {l : Bs} (hs : a.eval s = .slice (some ⟨b, 0, none⟩) l.length cap) (hc : Came w 1 (some ⟨b, 0, none⟩) b 0 l.length cap (Lib.byteCells l)) (hl : l.length ≤ 1000) (hbw : b < w.heap.size)
    (hfr : ∀ j, j < l.length → w.frozen? ⟨b, j, none⟩ = false)
    {g c : Nat} (hx : a.eval x = .slice (some ⟨g, 0, none⟩) 1 c) (hy : w.cell? ⟨g, 0, none⟩ = some (.int .u8 10))
    (h : ∀ v' w', Ten w b l v' w' → wpList Try.prog ops Q rest (a.put o.dst v') w') : wpList Try.prog ops Q (o :: rest) a w := by
  have hinfo : (Try.prog.info? 5).map (fun i => (i.zero, i.size, i.bytes)) = some (some (.int .u8 0), 1, 1) := by kernel_rfl
  obtain ⟨i0, hi, hz0, hz1, hz2⟩ : ∃ i0, Try.prog.info? 5 = some i0 ∧ i0.zero = some (.int .u8 0) ∧ i0.size = 1 ∧ i0.bytes = 1 := by
    cases hh : Try.prog.info? 5 with
    | none => rw [hh] at hinfo; cases hinfo
    | some i0 => rw [hh] at hinfo; simp only [Option.map_some, Option.some.injEq, Prod.mk.injEq] at hinfo; exact ⟨i0, rfl, hinfo⟩
  have hD : (castB (l ++ [10])).toArray.size = l.length + 1 := by simp [castB]
  refine wpList_append_arg w hgd s x 53 ho 5 i0 (.int .u8 0) 1 1 Try.underlying53 hi hz0 hz1 hz2 rfl (by omega) b 0 l.length cap (Lib.byteCells l) hs (by rw [bcells_len, Nat.mul_one]) (fun j u hj => hc.olds j u hj) ⟨g, 0, none⟩ 1 c [.int .u8 10] hx rfl (fun j u hj => by
    match j with
    | 0 => rw [Addr.add_lit]; simp at hj; rw [← hj]; exact hy
    | j + 1 => simp at hj) (fun u hu => by simp at hu; subst hu; rfl) (fun hle j hj => by
    have := hc.spare j (by simp at hj; omega)
    exact this) (by unfold maxLen; omega) (by omega) (fun hle => ?_) (fun hlt v' w' hown hgr => ?_)
  · refine h _ _ ⟨b, cap, rfl, hle, ?_, .inl rfl, fun q hq hne => World.heap_setCells_other w b _ _ hq hne, rfl, rfl, rfl, by simp [World.setCells, World.setCell]⟩
    have hsp := hc.spare 0 (by omega)
    simp only [Nat.zero_add, Nat.mul_one, Nat.add_zero] at hsp
    obtain ⟨x0, hx0⟩ := Option.isSome_iff_exists.1 hsp.1
    refine ⟨fun j hj => ?_, by simp [World.setCells, World.setCell]; exact hbw, by rw [hD]; omega⟩
    rw [hD] at hj
    simp only [Nat.zero_add, Nat.mul_one]
    show (w.setCell ⟨b, l.length, none⟩ (.int .u8 10)).cell? ⟨b, j, none⟩ = _ ∧ (w.setCell ⟨b, l.length, none⟩ (.int .u8 10)).frozen? ⟨b, j, none⟩ = false
    refine ⟨?_, ?_⟩
    · by_cases e : j = l.length
      · subst e
        rw [World.cell?_setCell_same _ _ _ hx0]
        have := cells_ten (l := l) (j := l.length) (by omega)
        rw [List.getElem?_append_right (by rw [bcells_len]; exact Nat.le_refl _), bcells_len, Nat.sub_self] at this
        simpa using this
      · rw [World.cell?_setCell_other _ _ _ _ (by intro h; injection h with _ h2 _; exact e h2.symm)]
        have h1 := cells_ten (l := l) (j := j) hj
        rw [List.getElem?_append_left (by rw [bcells_len]; omega)] at h1
        have := hc.olds j _ h1
        rwa [Nat.zero_add] at this
    · rw [World.frozen?_setCell]
      by_cases e : j = l.length
      · subst e; exact hsp.2
      · exact hfr j (by omega)
  · obtain ⟨g', cap', rfl, hbg, hgs⟩ := hown.form (by omega)
    refine h _ _ ⟨g', cap', rfl, ?_, ⟨fun j hj => ?_, hgs, by rw [hD]; omega⟩, .inr hbg, fun q hq _ => hgr.block q hq (by simp), hgr.os, hgr.tape, hgr.output, hgr.size⟩
    · have := (Rd.cap (owns_rd hown)).1
      exact this
    · rw [hD] at hj
      refine ⟨?_, World.ownsRow.frozenAt hown (0 + j)⟩
      have := World.ownsRow.cellAt hown (0 + j) (by omega)
      rw [this, Nat.zero_add]
      exact cells_ten hj
#print axioms append_ten
end Go.Proofs.Ytbnlkmblkokooaa

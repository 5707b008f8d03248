/- Contract of lettersOf. -/
import Derived.Test.YtbnlkmblkokooaaTrr
import Derived.Test.YtbnlkmblkokooaaBsk
import Derived.Test.YtbnlkmblkokooaaShelfK
import Derived.Test.YtbnlkmblkokooaaLts
namespace Go.Proofs.Ytbnlkmblkokooaa
open Go.RowKit
open Go.Sort (PermIn SortedIn)
theorem bcells_cast (l : Bs) : Lib.byteCells l = (castB l).map (Value.int .u8) := by simp [Lib.byteCells, castB]
theorem holds_own {base g cap : Nat} {w : World} {l : Bs} (h : OwnByts base w (.slice (some ⟨g, 0, none⟩) l.length cap) l) : Go.Sort.Holds (Value.int .u8) w g 0 (castB l).toArray := by
  intro j hj
  have hj' : j < l.length := by simpa [castB] using hj
  obtain ⟨a, b, off, cap', hv, _, ha, hc⟩ := h.byts.get
  injection hv with hv _ _
  rw [ha (by omega)] at hv
  injection hv with hv
  injection hv with e1 e2 _
  refine ⟨?_, World.ownsRow.frozenAt h (0 + j)⟩
  have := hc j hj'
  rw [← e1, ← e2] at this
  rw [this]
  simp [castB, hj']
/-- the row of the call's own behind a sort of its cells -/
theorem own_row {base g cap : Nat} {w : World} {l : Bs} {d : Array Int} {w' : World} {k : Nat} {m : Bs} (h : OwnByts base w (.slice (some ⟨g, 0, none⟩) l.length cap) l) (hr : Rw w g 0 d w') (hd : d.size = l.length) (hk : k ≤ l.length) (hm : m.length = k) (ht : d.toList.take k = castB m) :
    OwnByts base w' (.slice (some ⟨g, 0, none⟩) k cap) m ∧ w.grownBy w' (some g) := by
  obtain ⟨n, os, rfl⟩ := hr
  rcases h.2 with ⟨h0, h1⟩ | ⟨g', cap', cur, hv, hbg, hg, hnc, hcm, hcs, htk⟩
  · cases h0
  injection hv with hv _ hc
  injection hv with hv
  injection hv with hv _ _
  subst hv
  subst hc
  have hgs : g < w.heap.size := (Array.getElem?_eq_some_iff.1 hg).1
  have hh : (Go.Sort.grow (Go.Sort.putRow (Value.int .u8) (Go.Sort.ahead w n) g 0 d) os).heap[g]? = some (.cells (Go.Sort.putCells (Value.int .u8) 0 d cur) 5 (0, 0)) := by
    rw [Go.Sort.heap_grow_old _ _ (by simpa using hgs)]
    simp [Go.Sort.putRow, Go.Sort.mapBlock, Go.Sort.ahead, Array.getElem?_modify, hg, Go.Sort.onCells]
  refine ⟨⟨by rw [bcells_len, hm, Nat.mul_one], .inr ⟨g, cap, _, by rw [hm], hbg, hh, by omega, hcm, by simp [Go.Sort.putCells, hcs], ?_⟩⟩, ⟨rfl, rfl, rfl, by simp, fun q hq hne => ?_⟩⟩
  · rw [bcells_cast, ← ht, hm, Nat.mul_one]
    apply List.ext_getElem?
    intro j
    by_cases hj : j < k
    · rw [List.getElem?_take_of_lt hj, List.getElem?_map, List.getElem?_take_of_lt hj, Array.getElem?_toList, Array.getElem?_toList]
      have h1 : j < d.size := by omega
      have h2 : j < cur.size := by omega
      simp [Go.Sort.putCells, h1, h2]
    · rw [List.getElem?_take_eq_none (by omega), List.getElem?_eq_none (by rw [List.length_map, List.length_take]; omega)]
  · rw [Go.Sort.heap_grow_old _ _ (by simpa using hq)]
    have : g ≠ q := fun e => hne (by rw [e])
    simp [Go.Sort.putRow, Go.Sort.mapBlock, Go.Sort.ahead, Array.getElem?_modify, this]
/-- what sorts bytes of the call's own -/
def SrtPost (B : Nat) (l : Bs) (v : Value) (w : World) (e : Ending) (w' : World) : Prop := e = .returned (.tuple #[]) ∧ ∃ m : Bs, m.Perm l ∧ m.Pairwise (· ≤ ·) ∧ OwnByts B w' v m ∧ Below B w w'
theorem castB_inv : ∀ {d : List Int} {l : Bs}, d.Perm (castB l) → ∃ m : Bs, d = castB m ∧ m.Perm l := by
  intro d l h
  refine ⟨d.map fun x => UInt8.ofNat x.toNat, ?_, ?_⟩
  · have hb : ∀ x ∈ d, ∃ c : UInt8, (c.toNat : Int) = x := fun x hx => by
      have := h.mem_iff.1 hx
      unfold castB at this
      obtain ⟨c, _, e⟩ := List.mem_map.1 this
      exact ⟨c, e⟩
    unfold castB
    rw [List.map_map]
    conv => lhs; rw [← List.map_id d]
    refine List.map_congr_left fun x hx => ?_
    obtain ⟨c, rfl⟩ := hb x hx
    simp
  · have := h.map fun x : Int => UInt8.ofNat x.toNat
    unfold castB at this
    rw [List.map_map] at this
    have e : l.map ((fun x : Int => UInt8.ofNat x.toNat) ∘ fun c : UInt8 => (c.toNat : Int)) = l := by
      conv => rhs; rw [← List.map_id l]
      exact List.map_congr_left fun c _ => by simp
    rwa [e] at this
theorem sort_own (B : Nat) (l : Bs) (v : Value) (w : World) (hl : l.length ≤ 100000) (hB : B ≤ w.heap.size) (hv : OwnByts B w v l) :
    Calls Try.prog 49 #[v] w (SrtPost B l v w) := by
  by_cases h0 : l.length = 0
  · have hl0 : l = [] := List.eq_nil_of_length_eq_zero h0
    subst hl0
    obtain ⟨a, c, rfl⟩ := own_slice hv
    refine (sort_0 a c w).mono ?_
    rintro e w' ⟨rfl, rfl⟩
    exact ⟨rfl, [], List.Perm.refl _, List.Pairwise.nil, hv, Below.refl _ _⟩
  · rcases hv.2 with ⟨_, h1⟩ | ⟨g, cap, cur, rfl, hbg, hg, hnc, hcm, hcs, htk⟩
    · omega
    · have hgs : g < w.heap.size := (Array.getElem?_eq_some_iff.1 hg).1
      have hsz : (castB l).toArray.size = l.length := by simp [castB]
      have hR : RowAt w g 0 (castB l).toArray := ⟨holds_own hv, hgs, by rw [hsz]; omega⟩
      have h := sort_row g 0 cap (castB l).toArray w hR
      rw [hsz] at h
      refine h.mono ?_
      rintro e w' ⟨rfl, d', hr, hp, hs⟩
      have hds : d'.size = l.length := by rw [hp.1, hsz]
      have hperm : d'.toList.Perm (castB l) := by
        have := hp.2.2
        have e1 : d'.extract 0 l.length = d' := by rw [← hds]; simp
        have e2 : (castB l).toArray.extract 0 l.length = (castB l).toArray := by rw [← hsz]; simp
        rw [e1, e2] at this
        exact this
      obtain ⟨m, hm, hml⟩ := castB_inv hperm
      have hlen : m.length = l.length := hml.length_eq
      obtain ⟨ho, hgr⟩ := own_row (k := l.length) (m := m) hv hr hds (Nat.le_refl _) hlen (by rw [← hm]; exact List.take_of_length_le (by simp; omega))
      refine ⟨rfl, m, hml, ?_, ho, ⟨hgr.os, hgr.tape, hgr.output, hgr.size, fun q hq => hgr.block q (by omega) (by simp; omega)⟩⟩
      rw [List.pairwise_iff_getElem]
      intro i j hi hj hij
      have := hs i j (Nat.zero_le _) hij (by omega)
      have hge : ∀ q (hq : q < m.length), d'[q]! = (m[q].toNat : Int) := fun q hq => by
        rw [getElem!_pos d' q (by omega), ← Array.getElem_toList]
        simp only [hm, castB, List.getElem_map]
      rw [hge i hi, hge j hj] at this
      unfold ltI Go.Sort.ltInt at this
      simp only [decide_eq_false_iff_not] at this
      exact UInt8.le_iff_toNat_le.2 (by omega)
def CmpPost (B : Nat) (l : Bs) (w : World) (e : Ending) (w' : World) : Prop := ∃ v', e = .returned v' ∧ OwnByts B w' v' (lets l) ∧ Below B w w'
theorem lets_perm {l m : Bs} (h : m.Perm l) : lets m = lets l := by
  unfold lets
  refine List.filter_congr fun c _ => ?_
  rw [Bool.eq_iff_iff]
  simp [h.mem_iff]
theorem compact_own (B : Nat) (l : Bs) (v : Value) (w : World) (hl : l.length ≤ 100000) (hB : B ≤ w.heap.size) (hv : OwnByts B w v l) (hne : v ≠ .slice none 0 0) (hs : l.Pairwise (· ≤ ·)) :
    Calls Try.prog 85 #[v] w (CmpPost B l w) := by
  rcases hv.2 with ⟨h0, _⟩ | ⟨g, cap, cur, rfl, hbg, hg, hnc, hcm, hcs, htk⟩
  · exact absurd h0 hne
  · have hsz : (castB l).toArray.size = l.length := by simp [castB]
    have h := Try.compact_bytes g 0 cap (castB l).toArray w (holds_own hv) (by omega) (by omega)
    rw [hsz] at h
    have hX : Lib.compactUpTo (castB l).toArray (castB l).toArray.size = castB (lets l) := compact_lets (List.Perm.refl _) fun i j hij hj => by
      have hj' : j < l.length := by omega
      have := List.pairwise_iff_getElem.1 hs i j (by omega) hj' hij
      have hge : ∀ q (hq : q < l.length), (castB l).toArray[q]! = (l[q].toNat : Int) := fun q hq => by
        rw [getElem!_pos _ q (by rw [hsz]; exact hq)]
        simp [castB]
      rw [hge i (by omega), hge j hj']
      have := UInt8.le_iff_toNat_le.1 this
      omega
    rw [hsz] at hX
    rw [hX, castB_length] at h
    have hle : (lets l).length ≤ l.length := by
      have h1 := congrArg List.length hX
      rw [castB_length] at h1
      rw [← h1]
      unfold Lib.compactUpTo
      rw [List.length_map]
      have := List.length_filter_le (Lib.keeps (castB l).toArray) (List.range l.length)
      simpa using this
    refine h.mono ?_
    rintro e w' ⟨rfl, q, hw⟩
    obtain ⟨ho, hgr⟩ := own_row (d := (castB (lets l) ++ List.replicate (l.length - (lets l).length) 0).toArray) (w' := w') (k := (lets l).length) (m := lets l) hv ⟨q, #[], by rw [Go.Sort.grow_empty]; exact hw⟩ (by simp [castB]; omega) hle rfl (by simp [castB])
    exact ⟨_, rfl, ho, ⟨hgr.os, hgr.tape, hgr.output, hgr.size, fun q hq => hgr.block q (by have := (Array.getElem?_eq_some_iff.1 hg).1; omega) (by simp; omega)⟩⟩
theorem byte_cells_one (l : Bs) : ∀ u ∈ Lib.byteCells l, u.oneCell' = true := by
  intro u hu
  unfold Lib.byteCells at hu
  obtain ⟨c, _, rfl⟩ := List.mem_map.1 hu
  rfl
set_option maxHeartbeats 2000000 in
theorem letters_any2 (l : Bs) (b off c : Nat) (w : World) (hl : l.length ≤ 100000) (hc : ∀ i (hi : i < l.length), w.cell? ⟨b, off + i, none⟩ = some (.int .u8 l[i].toNat)) :
    Calls Try.prog 61 #[.slice (some ⟨b, off, none⟩) l.length c] w (CmpPost w.heap.size l w) := by
  have HC := Lib.hid (Try.clone_bytes b off l.length c (Lib.byteCells l) w (bcells_len l) (by omega) (fun j u hj => by
    have hj' : j < l.length := by have := (List.getElem?_eq_some_iff.1 hj).1; rwa [bcells_len] at this
    rw [hc j hj']
    simp [Lib.byteCells, List.getElem?_eq_getElem hj'] at hj
    rw [hj]) (byte_cells_one l))
  obtain ⟨n, hn⟩ : ∃ n, n = l.length := ⟨_, rfl⟩
  rw [← hn] at HC
  rw [← hn]
  have HN := Lib.hid hn
  have hn1 : n ≤ 100000 := by omega
  clear hc hl hn
  go_enter Try.func61, Try.ntmps61
  go_wp2_with fail
  refine HC.out.mono ?_
  rintro e w1 ⟨v1, rfl, ho1, hne1, hb1⟩
  rw [HN.out] at ho1
  have HS := Lib.hid (sort_own w.heap.size l v1 w1 (by have := HN.out; omega) hb1.size ho1)
  have HB1 := Lib.hid hb1
  have Hne := Lib.hid hne1
  clear ho1 hb1 hne1
  go_wp2_with fail
  refine HS.out.mono ?_
  rintro e w2 ⟨rfl, m, hm, hs, ho2, hb2⟩
  have hb12 := HB1.out.trans hb2
  have HP := Lib.hid (compact_own w.heap.size m v1 w2 (by have := hm.length_eq; have := HN.out; omega) hb12.size ho2 Hne.out hs)
  have HB2 := Lib.hid hb12
  have HM := Lib.hid (lets_perm hm)
  clear ho2 hb2 hb12 hm hs
  go_wp2_with fail
  refine HP.out.mono ?_
  rintro e w3 ⟨v3, rfl, ho3, hb3⟩
  rw [HM.out] at ho3
  have HO3 := Lib.hid ho3
  have HB3 := Lib.hid (HB2.out.trans hb3)
  clear ho3 hb3
  go_wp2_with fail
  go_ret
  exact ⟨v3, rfl, HO3.out, HB3.out⟩
#print axioms letters_any2
#print axioms sort_own
end Go.Proofs.Ytbnlkmblkokooaa

/- The different bytes of a string, rising: of no program. -/
import Derived.Test.YtbnlkmblkokooaaStr
import Derived.Lib.SlicesCompact
import Derived.Sort.LotA
namespace Go.Proofs.Ytbnlkmblkokooaa
/-- the different bytes, rising -/
def lets (l : Bs) : Bs := ((List.range 256).map UInt8.ofNat).filter fun c => l.contains c
theorem all_bytes : ((List.range 256).map UInt8.ofNat).Pairwise (· < ·) := by
  rw [List.pairwise_map]
  refine List.Pairwise.imp_of_mem ?_ List.pairwise_lt_range
  intro a b ha hb h
  have := List.mem_range.1 ha
  have := List.mem_range.1 hb
  rw [UInt8.lt_iff_toNat_lt, UInt8.toNat_ofNat', UInt8.toNat_ofNat']
  omega
theorem lets_rise (l : Bs) : (lets l).Pairwise (· < ·) := all_bytes.filter _
theorem lets_mem {l : Bs} {c : UInt8} : c ∈ lets l ↔ c ∈ l := by
  unfold lets
  rw [List.mem_filter]
  constructor
  · intro h; simpa using h.2
  · intro h
    refine ⟨List.mem_map.2 ⟨c.toNat, List.mem_range.2 c.toNat_lt, by simp⟩, by simpa using h⟩
def castB (l : Bs) : List Int := l.map fun c => (c.toNat : Int)
theorem castB_length (l : Bs) : (castB l).length = l.length := by simp [castB]
theorem castB_rise {l : Bs} (h : l.Pairwise (· < ·)) : (castB l).Pairwise (· < ·) := by
  unfold castB
  rw [List.pairwise_map]
  exact h.imp fun h => by have := UInt8.lt_iff_toNat_lt.1 h; omega
theorem rise_unique {a b : List Int} (ha : a.Pairwise (· < ·)) (hb : b.Pairwise (· < ·)) (h : ∀ x, x ∈ a ↔ x ∈ b) : a = b := by
  have na : a.Nodup := ha.imp fun h => by omega
  have nb : b.Nodup := hb.imp fun h => by omega
  exact sorted_unique (r := fun x y : Int => x < y) (fun x => Int.lt_irrefl x) (fun x y z => Int.lt_trans) ((List.perm_ext_iff_of_nodup na nb).2 h) ha hb
open Go.Lib (compactUpTo keeps)
/-- what is sorted, compacted -/
theorem compact_rise {d : Array Int} (hs : ∀ i j, i < j → j < d.size → d[i]! ≤ d[j]!) : (compactUpTo d d.size).Pairwise (· < ·) := by
  unfold compactUpTo
  rw [List.pairwise_map]
  refine List.Pairwise.imp_of_mem ?_ ((List.pairwise_lt_range (n := d.size)).filter (keeps d))
  intro i j hi hj hij
  have hj' := List.mem_filter.1 hj
  have hjs := List.mem_range.1 hj'.1
  have hk := hj'.2
  unfold keeps at hk
  simp only [decide_eq_true_eq] at hk
  have hne : d[j]! ≠ d[j - 1]! := by
    rcases hk with h | h
    · omega
    · exact h
  have h1 := hs (j - 1) j (by omega) hjs
  have h2 : d[i]! ≤ d[j - 1]! := by
    by_cases e : i = j - 1
    · rw [e]; exact Int.le_refl _
    · exact hs i (j - 1) (by omega) (by omega)
  omega
theorem compact_mem {d : Array Int} {x : Int} : x ∈ compactUpTo d d.size ↔ ∃ i, i < d.size ∧ d[i]! = x := by
  unfold compactUpTo
  rw [List.mem_map]
  constructor
  · rintro ⟨i, hi, e⟩
    exact ⟨i, List.mem_range.1 (List.mem_filter.1 hi).1, e⟩
  · rintro ⟨i, hi, e⟩
    induction i with
    | zero => exact ⟨0, List.mem_filter.2 ⟨List.mem_range.2 hi, by simp [keeps]⟩, e⟩
    | succ i ih =>
      by_cases h : d[i + 1]! = d[i]!
      · exact ih (by omega) (by rw [← h]; exact e)
      · exact ⟨i + 1, List.mem_filter.2 ⟨List.mem_range.2 hi, by unfold keeps; simp only [decide_eq_true_eq]; exact Or.inr (by simpa using h)⟩, e⟩
theorem compact_lets {l : Bs} {d : Array Int} (hp : d.toList.Perm (castB l)) (hs : ∀ i j, i < j → j < d.size → d[i]! ≤ d[j]!) : compactUpTo d d.size = castB (lets l) := by
  refine rise_unique (compact_rise hs) (castB_rise (lets_rise l)) fun x => ?_
  rw [compact_mem]
  have h1 : (∃ i, i < d.size ∧ d[i]! = x) ↔ x ∈ d.toList := by
    rw [List.mem_iff_getElem]
    constructor
    · rintro ⟨i, hi, e⟩
      exact ⟨i, by simpa using hi, by rw [Array.getElem_toList, ← getElem!_pos d i hi]; exact e⟩
    · rintro ⟨i, hi, e⟩
      have hi' : i < d.size := by simpa using hi
      exact ⟨i, hi', by rw [getElem!_pos d i hi', ← Array.getElem_toList]; exact e⟩
  rw [h1, hp.mem_iff]
  unfold castB
  rw [List.mem_map, List.mem_map]
  constructor
  · rintro ⟨c, hc, e⟩; exact ⟨c, lets_mem.2 hc, e⟩
  · rintro ⟨c, hc, e⟩; exact ⟨c, lets_mem.1 hc, e⟩
#print axioms compact_lets
end Go.Proofs.Ytbnlkmblkokooaa

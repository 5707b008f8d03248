/- slices.SortStableFunc by the bytes of a string. -/
import Derived.Test.YtbnlkmblkokooaaStf
import Derived.Test.YtbnlkmblkokooaaBkm
namespace Go.Proofs.Ytbnlkmblkokooaa
open Go.RowKit
open Go.Sort (PermIn)
def idsI (n : Nat) : List Int := (List.range n).map fun i : Nat => (i : Int)
theorem idsI_len (n : Nat) : (idsI n).length = n := by simp [idsI]
/-- what a stable sort of places leaves -/
def SsPost (s : ByteArray) (bO n : Nat) (w : World) (e : Ending) (w' : World) : Prop := e = .returned (.tuple #[]) ∧ ∃ L : List Nat, L.Perm (List.range n) ∧ (∀ p (hp : p < L.length), pl (bs s) L[p] = p) ∧ (∀ t (ht : t < L.length), w'.cell? ⟨bO, t, none⟩ = some (.int .i64 (L[t] : Nat))) ∧ w.grownBy w' (some bO)
theorem keyS_K (s : ByteArray) : ∀ x : Nat, x < (bs s).length → keyS s (x : Int) = (((bs s).getD x 0).toNat : Int) := fun x _ => by
  unfold keyS
  rw [Int.toNat_natCast]
theorem stab_own (s : ByteArray) (g bO base cap n : Nat) (w : World) (hown : w.ownsRow base 3 1 (.slice (some ⟨bO, 0, none⟩) n cap) n ((idsI n).map (Value.int .i64))) (hn : n = s.size) (h0 : 0 < n) (hn1 : n ≤ 1000) (hg : g < w.heap.size) (hgb : g ≠ bO) (hcell : w.cell? ⟨g, 0, none⟩ = some (.string s)) :
    Calls Try.prog 82 #[.slice (some ⟨bO, 0, none⟩) n cap, .func (.func 83) #[] #[.pointer (some ⟨g, 0, none⟩)]] w (SsPost s bO n w) := by
  have hsz : (idsI n).toArray.size = n := by simp [idsI]
  have hget : ∀ t, t < n → (idsI n).toArray[t]! = (t : Int) := fun t ht => by
    rw [getElem!_pos (idsI n).toArray t (by rw [hsz]; exact ht)]
    simp [idsI]
  have hR : RowN w bO 0 (idsI n).toArray := by
    refine ⟨fun j hj => ?_, (hown.lt bO rfl).2, by rw [hsz]; omega⟩
    rw [hsz] at hj
    refine ⟨?_, World.ownsRow.frozenAt hown (0 + j)⟩
    have := World.ownsRow.cellAt hown (0 + j) (by omega)
    rw [this, hget j hj, Nat.zero_add, List.getElem?_map]
    simp [idsI, hj]
  have HR := Lib.hid hR
  have HS := Lib.hid (stable_n s g bO 0 cap (idsI n).toArray w hR hg hgb hcell (by rw [hsz]; omega) (by rw [hsz]; exact h0) (fun t ht => hget t (by rw [hsz] at ht; exact ht)))
  rw [hsz] at HS
  have HZ := Lib.hid hsz
  have HN := Lib.hid hn
  clear hR hown hsz hget hg hgb hcell hn
  go_enter Try.func82, Try.ntmps82
  go_wp2_with fail
  refine HS.out.mono ?_
  rintro e w' ⟨rfl, d', hr, hm⟩
  have HFin := Lib.hid (show SsPost s bO n w (.returned (.tuple #[])) w' from by
    have hz := HZ.out
    have hds : d'.size = n := by rw [hm.1.1, hz]
    have hperm : d'.toList.Perm (idsI n) := by
      have := hm.1.2.2
      have e1 : d'.extract 0 n = d' := by rw [← hds]; simp
      have e2 : ∀ A : Array Int, A.size = n → A.extract 0 n = A := fun A hA => by rw [← hA]; simp
      rw [e1, e2 _ hz] at this
      exact this
    have hL : (d'.toList.map Int.toNat).Perm (List.range n) := by
      have := hperm.map Int.toNat
      unfold idsI at this
      rw [List.map_map] at this
      have e : (List.range n).map (Int.toNat ∘ fun i : Nat => (i : Int)) = List.range n := by
        conv => rhs; rw [← List.map_id (List.range n)]
        exact List.map_congr_left fun c _ => by simp
      rwa [e] at this
    have hlen : (d'.toList.map Int.toNat).length = n := by simp [hds]
    have hval : ∀ t (ht : t < (d'.toList.map Int.toNat).length), ((d'.toList.map Int.toNat)[t] : Int) = d'[t]! := fun t ht => by
      rw [hlen] at ht
      rw [List.getElem_map, Array.getElem_toList, getElem!_pos d' t (by omega)]
      have hmem : d'[t]'(by omega) ∈ idsI n := hperm.mem_iff.1 (by rw [← Array.getElem_toList]; exact List.getElem_mem _)
      unfold idsI at hmem
      obtain ⟨c, _, e⟩ := List.mem_map.1 hmem
      rw [← e]; simp
    refine ⟨rfl, d'.toList.map Int.toNat, hL, fun p hp => ?_, fun t ht => ?_, hr.grownBy⟩
    · refine sorted_pl (keyS_K s) (by rw [bs_len, ← HN.out]; omega) (by rw [bs_len, ← HN.out]; exact hL) (fun i j hi hj => ?_) hp
      rw [hval i (by omega), hval j hj]
      exact hm.2 i j (Nat.zero_le _) hi (by rw [← hlen]; exact hj)
    · have hrow := Rn.row HR.out hr (by rw [hds, hz])
      have ht' : t < n := by rw [hlen] at ht; exact ht
      have := hrow.cell (t := t) (by rw [hds]; exact ht')
      rw [Nat.zero_add] at this
      rw [this, hval t ht])
  clear hr hm
  go_wp2_with fail
  go_end0
  exact HFin.out
#print axioms stab_own
end Go.Proofs.Ytbnlkmblkokooaa

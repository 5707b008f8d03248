/- Contract of allowed. -/
import Derived.Test.YtpehbffkplmfjaaSna
namespace Go.Proofs.Ytpehbffkplmfjaa
open Go.RowKit
/-- no bad pair among those before (i, j) -/
def AlP (h : List NOp) (W : Nat → Nat) (l : List Nat) (i j : Nat) : Prop := ∀ i' j', i' < l.length → j' < l.length → (i' < i ∨ i' = i ∧ j' < j) → l.getD i' 0 ≠ l.getD j' 0 → ¬ Bad h W (l.getD i' 0) (l.getD j' 0)
theorem alP_step {h : List NOp} {W : Nat → Nat} {l : List Nat} {i j : Nat} (hi : i < l.length) (hj : j < l.length) : AlP h W l i (j + 1) ↔ AlP h W l i j ∧ (l.getD i 0 ≠ l.getD j 0 → ¬ Bad h W (l.getD i 0) (l.getD j 0)) := by
  constructor
  · intro q
    exact ⟨fun i' j' h1 h2 h3 => q i' j' h1 h2 (by omega), fun hne => q i j hi hj (by omega) hne⟩
  · rintro ⟨q1, q2⟩ i' j' h1 h2 h3 hne
    by_cases e : i' = i ∧ j' = j
    · rw [e.1, e.2] at hne ⊢; exact q2 hne
    · exact q1 i' j' h1 h2 (by omega) hne
theorem alP_next {h : List NOp} {W : Nat → Nat} {l : List Nat} {i : Nat} : AlP h W l i l.length ↔ AlP h W l (i + 1) 0 := by
  constructor
  · intro q i' j' h1 h2 h3; exact q i' j' h1 h2 (by omega)
  · intro q i' j' h1 h2 h3; exact q i' j' h1 h2 (by omega)
theorem alP_all {h : List NOp} {W : Nat → Nat} {l : List Nat} : AlP h W l l.length 0 ↔ ∀ a, a ∈ l → ∀ c, c ∈ l → a ≠ c → ¬ Bad h W a c := by
  constructor
  · intro q a ha c hc hne
    obtain ⟨i, hi, rfl⟩ := List.getElem_of_mem ha
    obtain ⟨j, hj, rfl⟩ := List.getElem_of_mem hc
    have := q i j hi hj (by omega)
    rw [List.getD_eq_getElem?_getD, List.getElem?_eq_getElem hi, List.getD_eq_getElem?_getD, List.getElem?_eq_getElem hj] at this
    exact this hne
  · intro q i j hi hj _ hne
    exact q _ (getD_mem hi) _ (getD_mem hj) hne
set_option maxRecDepth 100000 in
set_option maxHeartbeats 4000000 in
theorem allowed_any {w : World} {b : Nat} {h : List NOp} {W F : Nat → Nat} {l : List Nat} {u : Value} (s : SnB w b h W F u) (hin : Ints w u (castN l)) (h7 : ∀ x, x ∈ l → x < 7) (hl : l.length ≤ 7) (hW : ∀ x, W x < 128) :
    Calls Try.prog 67 #[.pointer (some ⟨b, 0, none⟩)] w fun e w' => ∃ B : Bool, e = .returned (.bool B) ∧ (B = true ↔ ∀ a, a ∈ l → ∀ c, c ∈ l → a ≠ c → ¬ Bad h W a c) ∧ Below w.heap.size w w' := by
  obtain ⟨w2, hw2⟩ : ∃ w2, w2 = (w.alloc (.cells #[.pointer (some ⟨b, 0, none⟩)] 93)).alloc (.cells #[.bool true] 4) := ⟨_, rfl⟩
  have hb2 : Below w.heap.size w w2 := by rw [hw2]; exact Below.tr (below_alloc _ _) (below_alloc _ _)
  have hp2 : w2.cell? ⟨w.heap.size, 0, none⟩ = some (.pointer (some ⟨b, 0, none⟩)) := by
    rw [hw2]
    exact (World.cell?_of_block (heap_alloc_old _ _ (by simp))).trans (cell_new w #[.pointer (some ⟨b, 0, none⟩)] 93 0)
  have hk2 : Blk w2 (w.heap.size + 1) 4 1 (fun _ => .bool true) := by
    rw [hw2]
    have := blk_new (w.alloc (.cells #[.pointer (some ⟨b, 0, none⟩)] 93)) 4 1 (fun _ => .bool true)
    rwa [show (w.alloc (.cells #[.pointer (some ⟨b, 0, none⟩)] 93)).heap.size = w.heap.size + 1 by simp] at this
  have hInv : Inv 99 (.pointer (some ⟨w.heap.size, 0, none⟩)) (.pointer (some ⟨w.heap.size + 1, 0, none⟩)) b u l (fun i j w' => Below w.heap.size w w' ∧ w'.cell? ⟨w.heap.size, 0, none⟩ = some (.pointer (some ⟨b, 0, none⟩)) ∧ ∃ ok : Bool, Blk w' (w.heap.size + 1) 4 1 (fun _ => .bool ok) ∧ (ok = true ↔ AlP h W l i j)) :=
    { ent := fun x y w => ent99 _ _ x y w
      step := fun i j w' hI hi hj hne => by
        obtain ⟨hb, hp, ok, hk, hok⟩ := hI
        refine (allowed1_any (Blk.keep s hb) hp hk (h7 _ (getD_mem hi)) (h7 _ (getD_mem hj)) hW).mono ?_
        rintro e w'' ⟨rfl, hk', hg⟩
        refine ⟨rfl, Below.grown hb hg hb.size (fun k hk => by injection hk with hk; omega), grown_cell hp hg (by omega), _, hk', ?_⟩
        rw [alP_step hi hj]
        by_cases q : Bad h W (l.getD i 0) (l.getD j 0)
        · rw [if_pos q]
          exact ⟨fun r => (by cases r), fun r => absurd q (r.2 hne)⟩
        · rw [if_neg q, hok]
          exact ⟨fun r => ⟨r, fun _ => q⟩, fun r => r.1⟩
      skip := fun i j w' hI hi hj he => by
        obtain ⟨hb, hp, ok, hk, hok⟩ := hI
        refine ⟨hb, hp, ok, hk, ?_⟩
        rw [alP_step hi hj, hok]
        exact ⟨fun r => ⟨r, fun q => absurd he q⟩, fun r => r.1⟩
      next := fun i w' hI => by
        obtain ⟨hb, hp, ok, hk, hok⟩ := hI
        exact ⟨hb, hp, ok, hk, hok.trans alP_next⟩
      list := fun i j w' hI => ⟨(show SnB w' b h W F u from Blk.keep s hI.1).li, hin.keep hI.1⟩ }
  have HP := Lib.hid (pairs_any hInv hl w2 ⟨hb2, hp2, true, hk2, ⟨fun _ i' j' _ _ h3 => by omega, fun _ => rfl⟩⟩)
  have ck := Blk.at hk2 (show 0 < 1 by omega)
  clear hInv s hin h7 hl hW hk2 hb2
  go_enter Try.func67, Try.ntmps67
  go_upto_region 2 with fail
  rw [← hw2]
  clear hw2
  go_wp2_with fail
  refine HP.out.mono ?_
  rintro e w3 ⟨rfl, hb3, _, ok, hk3, hok⟩
  have ck3 := Blk.at hk3 (show 0 < 1 by omega)
  have Hb3 := Lib.hid hb3
  have Hok := Lib.hid (hok.trans alP_all)
  clear hb3 hk3 hok ck hp2
  go_wp2_with fail
  go_ret
  exact ⟨ok, rfl, Hok.out, Hb3.out⟩
#print axioms allowed_any
end Go.Proofs.Ytpehbffkplmfjaa

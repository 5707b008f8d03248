/- Contract of (*snapshots).edges. -/
import Derived.Test.YtpehbffkplmfjaaSne
namespace Go.Proofs.Ytpehbffkplmfjaa
open Go.RowKit
/-- the edges behind the first j pairs of the i-th transaction -/
def seR (h : List NOp) (W F : Nat → Nat) (l : List Nat) (i : Nat) (f : Nat → Nat) : Nat → Nat → Nat
  | 0 => f
  | j + 1 => if l.getD i 0 ≠ l.getD j 0 ∧ SnE h W F l (l.getD i 0) (l.getD j 0) then fun a => if a = l.getD i 0 then seR h W F l i f j (l.getD i 0) ||| 2 ^ l.getD j 0 else seR h W F l i f j a else seR h W F l i f j
def seT (h : List NOp) (W F : Nat → Nat) (l : List Nat) : Nat → Nat → Nat
  | 0 => fun _ => 0
  | i + 1 => seR h W F l i (seT h W F l i) l.length
theorem seR_lt {h : List NOp} {W F : Nat → Nat} {l : List Nat} (h7 : ∀ x, x ∈ l → x < 7) {i : Nat} {f : Nat → Nat} (hf : ∀ x, f x < 128) : ∀ j, j ≤ l.length → ∀ x, seR h W F l i f j x < 128
  | 0, _, x => hf x
  | j + 1, hj, x => by
    have ih := seR_lt (h := h) (W := W) (F := F) h7 (i := i) hf j (by omega)
    rw [seR]
    split
    · show (if x = l.getD i 0 then _ else _) < 128
      split
      · exact Nat.or_lt_two_pow (n := 7) (ih _) (Nat.pow_lt_pow_right (by decide) (h7 _ (getD_mem (by omega))))
      · exact ih x
    · exact ih x
theorem seT_lt {h : List NOp} {W F : Nat → Nat} {l : List Nat} (h7 : ∀ x, x ∈ l → x < 7) : ∀ i x, seT h W F l i x < 128
  | 0, x => by simp [seT]
  | i + 1, x => by rw [seT]; exact seR_lt h7 (seT_lt h7 i) _ (Nat.le_refl _) x
set_option maxRecDepth 100000 in
set_option maxHeartbeats 4000000 in
theorem snEdges_any {w : World} {b : Nat} {h : List NOp} {W F : Nat → Nat} {l : List Nat} {u : Value} (s : SnB w b h W F u) (hin : Ints w u (castN l)) (h7 : ∀ x, x ∈ l → x < 7) (hl : l.length ≤ 7) (hW : ∀ x, W x < 128) (hF : ∀ x, F x < 128) :
    Calls Try.prog 68 #[.pointer (some ⟨b, 0, none⟩)] w fun e w' => e = .returned (.pointer (some ⟨w.heap.size + 1, 0, none⟩)) ∧ EdB w' (w.heap.size + 1) (seT h W F l l.length) ∧ Below w.heap.size w w' := by
  obtain ⟨wa, hwa⟩ : ∃ wa, wa = w.alloc (.cells #[.pointer (some ⟨b, 0, none⟩)] 93) := ⟨_, rfl⟩
  have sa : wa.heap.size = w.heap.size + 1 := by rw [hwa]; simp
  obtain ⟨wb, hwb⟩ : ∃ wb, wb = wa.alloc (.cells #[.int .i64 0, .int .i64 0, .int .i64 0, .int .i64 0, .int .i64 0, .int .i64 0, .int .i64 0] 120) := ⟨_, rfl⟩
  have sb : wb.heap.size = w.heap.size + 2 := by rw [hwb]; simp [sa]
  obtain ⟨w2, hw2⟩ : ∃ w2, w2 = wb.alloc (.cells #[.pointer (some ⟨w.heap.size + 1, 0, none⟩)] 73) := ⟨_, rfl⟩
  have ba : Below w.heap.size w wa := by rw [hwa]; exact below_alloc _ _
  have bb : Below wa.heap.size wa wb := by rw [hwb]; exact below_alloc _ _
  have bc : Below wb.heap.size wb w2 := by rw [hw2]; exact below_alloc _ _
  have hb2 : Below w.heap.size w w2 := Below.tr (Below.tr ba bb) bc
  have hp2 : w2.cell? ⟨w.heap.size, 0, none⟩ = some (.pointer (some ⟨b, 0, none⟩)) := Below.keep (Below.tr bb bc) (by rw [hwa]; exact cell_new w #[.pointer (some ⟨b, 0, none⟩)] 93 0)
  have he2 : w2.cell? ⟨w.heap.size + 2, 0, none⟩ = some (.pointer (some ⟨w.heap.size + 1, 0, none⟩)) := by
    rw [hw2, ← sb]; exact cell_new wb _ _ 0
  have hE2 : EdB w2 (w.heap.size + 1) (fun _ => 0) := Blk.keep (show EdB wb (w.heap.size + 1) (fun _ => 0) from by
    rw [hwb, ← sa]; exact blk_new wa 120 7 (fun _ => .int .i64 0)) bc
  have hInv : Inv 100 (.pointer (some ⟨w.heap.size, 0, none⟩)) (.pointer (some ⟨w.heap.size + 2, 0, none⟩)) b u l (fun i j w' => j ≤ l.length ∧ Below w.heap.size w w' ∧ (w'.cell? ⟨w.heap.size, 0, none⟩ = some (.pointer (some ⟨b, 0, none⟩)) ∧ w'.cell? ⟨w.heap.size + 2, 0, none⟩ = some (.pointer (some ⟨w.heap.size + 1, 0, none⟩))) ∧ EdB w' (w.heap.size + 1) (seR h W F l i (seT h W F l i) j)) :=
    { ent := fun x y w => ent100 _ _ x y w
      step := fun i j w' hI hi hj hne => by
        obtain ⟨hjl, hb, ⟨hp, he⟩, hE⟩ := hI
        refine (edges1_any (Blk.keep s hb) (hin.keep hb) h7 hl hp he hE (seR_lt h7 (seT_lt h7 i) j hjl) (h7 _ (getD_mem hi)) (h7 _ (getD_mem hj)) hW hF).mono ?_
        rintro e w'' ⟨rfl, hE', hg⟩
        refine ⟨rfl, by omega, Below.grown hb hg hb.size (fun k hk => by injection hk with hk; omega), ⟨grown_cell hp hg (by omega), grown_cell he hg (by omega)⟩, ?_⟩
        rw [seR]
        by_cases q : SnE h W F l (l.getD i 0) (l.getD j 0)
        · rw [if_pos q] at hE'
          rw [if_pos ⟨hne, q⟩]; exact hE'
        · rw [if_neg q] at hE'
          rw [if_neg (fun r => q r.2)]; exact hE'
      skip := fun i j w' hI hi hj he' => by
        obtain ⟨hjl, hb, hpe, hE⟩ := hI
        refine ⟨by omega, hb, hpe, ?_⟩
        rw [seR, if_neg (fun r => r.1 he')]; exact hE
      next := fun i w' hI => by
        obtain ⟨hjl, hb, hpe, hE⟩ := hI
        exact ⟨Nat.zero_le _, hb, hpe, hE⟩
      list := fun i j w' hI => ⟨(show SnB w' b h W F u from Blk.keep s hI.2.1).li, hin.keep hI.2.1⟩ }
  have HP := Lib.hid (pairs_any hInv hl w2 ⟨Nat.zero_le _, hb2, ⟨hp2, he2⟩, hE2⟩)
  clear hInv s hin h7 hl hW hF hb2 hE2 ba bb bc
  subst hwa hwb
  go_enter Try.func68, Try.ntmps68
  go_upto_region 2 with fail
  rw [← hw2]
  clear hw2 sa sb
  go_wp2_with fail
  refine HP.out.mono ?_
  rintro e w3 ⟨rfl, _, hb3, ⟨_, he3⟩, hE3⟩
  have Hb3 := Lib.hid hb3
  have HE3 := Lib.hid hE3
  clear hb3 hE3 hp2 he2
  go_wp2_with fail
  go_ret
  exact ⟨rfl, HE3.out, Hb3.out⟩
#print axioms snEdges_any
end Go.Proofs.Ytpehbffkplmfjaa

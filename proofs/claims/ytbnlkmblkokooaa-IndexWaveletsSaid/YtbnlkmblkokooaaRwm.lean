/- The reference's wavelet tree: its math, its block of marks, three rows that grow. -/
import Derived.Test.YtbnlkmblkokooaaWvl
import Derived.Deep.RegionLaw
import Derived.Deep.RegionHeld3
namespace Go.Proofs.Ytbnlkmblkokooaa
open Go.RowKit
theorem rise_uniqueB {a b : Bs} (ha : a.Pairwise (· < ·)) (hb : b.Pairwise (· < ·)) (h : ∀ x, x ∈ a ↔ x ∈ b) : a = b := by
  have h1 : castB a = castB b := rise_unique (castB_rise ha) (castB_rise hb) fun x => by
    unfold castB
    rw [List.mem_map, List.mem_map]
    constructor
    · rintro ⟨c, hc, e⟩; exact ⟨c, (h c).1 hc, e⟩
    · rintro ⟨c, hc, e⟩; exact ⟨c, (h c).2 hc, e⟩
  have := congrArg (fun l : List Int => l.map fun x => UInt8.ofNat x.toNat) h1
  unfold castB at this
  simp only [List.map_map] at this
  have e : ∀ l : Bs, l.map ((fun x : Int => UInt8.ofNat x.toNat) ∘ fun c : UInt8 => (c.toNat : Int)) = l := fun l => by
    conv => rhs; rw [← List.map_id l]
    exact List.map_congr_left fun c _ => by simp
  rw [e, e] at this
  exact this
theorem lets_lo {S : Bs} (h : 2 ≤ (lets S).length) : lets (loS (spl (lets S)) S) = (lets S).take (half (lets S).length) := by
  refine rise_uniqueB (lets_rise _) ((lets_rise S).sublist (List.take_sublist _ _)) fun x => ?_
  rw [lets_mem]
  constructor
  · exact ((over_lets S).lo h).mem x
  · intro hx
    refine List.mem_filter.2 ⟨lets_mem.1 (List.mem_of_mem_take hx), ?_⟩
    rw [(rise_split (lets_rise S) h).1 x hx]; rfl
theorem lets_hi {S : Bs} (h : 2 ≤ (lets S).length) : lets (hiS (spl (lets S)) S) = (lets S).drop (half (lets S).length) := by
  refine rise_uniqueB (lets_rise _) ((lets_rise S).sublist (List.drop_sublist _ _)) fun x => ?_
  rw [lets_mem]
  constructor
  · exact ((over_lets S).hi h).mem x
  · intro hx
    exact List.mem_filter.2 ⟨lets_mem.1 (List.mem_of_mem_drop hx), (rise_split (lets_rise S) h).2 x hx⟩
/-- the different bytes below c -/
def letsTo (l : Bs) (c : Nat) : Bs := ((List.range c).map UInt8.ofNat).filter fun c => l.contains c
theorem letsTo_zero (l : Bs) : letsTo l 0 = [] := rfl
theorem letsTo_succ (l : Bs) (c : Nat) : letsTo l (c + 1) = letsTo l c ++ (if l.contains (UInt8.ofNat c) then [UInt8.ofNat c] else []) := by
  unfold letsTo
  rw [List.range_succ, List.map_append, List.filter_append]
  cases h : l.contains (UInt8.ofNat c) <;> simp <;> simpa using h
theorem letsTo_len (l : Bs) (c : Nat) : (letsTo l c).length ≤ c := by
  unfold letsTo
  have := List.length_filter_le (fun c => l.contains c) ((List.range c).map UInt8.ofNat)
  simpa using this
theorem letsTo_all {l : Bs} (h : ∀ x ∈ l, x.toNat < 128) : letsTo l 128 = lets l := by
  have hr : (letsTo l 128).Pairwise (· < ·) := by
    unfold letsTo
    refine List.Pairwise.filter _ ?_
    rw [List.pairwise_map]
    refine List.Pairwise.imp_of_mem ?_ List.pairwise_lt_range
    intro a b ha hb h
    have := List.mem_range.1 ha
    have := List.mem_range.1 hb
    rw [UInt8.lt_iff_toNat_lt, UInt8.toNat_ofNat', UInt8.toNat_ofNat']
    omega
  refine rise_uniqueB hr (lets_rise l) fun x => ?_
  rw [lets_mem]
  unfold letsTo
  rw [List.mem_filter]
  constructor
  · intro h; simpa using h.2
  · intro hx
    exact ⟨List.mem_map.2 ⟨x.toNat, List.mem_range.2 (h x hx), by simp⟩, by simpa using hx⟩
theorem lo_lt {c : UInt8} {S : Bs} (h : ∀ x ∈ S, x.toNat < 128) : ∀ x ∈ loS c S, x.toNat < 128 := fun x hx => h x (List.mem_filter.1 hx).1
theorem hi_lt {c : UInt8} {S : Bs} (h : ∀ x ∈ S, x.toNat < 128) : ∀ x ∈ hiS c S, x.toNat < 128 := fun x hx => h x (List.mem_filter.1 hx).1
theorem bits_succ {c : UInt8} {S : Bs} {i : Nat} (h : i < S.length) : bitsOf c (S.take (i + 1)) = bitsOf c (S.take i) ++ [if high c S[i] then 49 else 48] := by
  unfold bitsOf
  rw [List.take_succ_eq_append_getElem h, List.map_append]; rfl
theorem bitsOf_len (c : UInt8) (S : Bs) : (bitsOf c S).length = S.length := by simp [bitsOf]
theorem and_127 (c : UInt8) (h : c.toNat < 128) : bits .and .u8 (c.toNat : Int) 127 = (c.toNat : Int) :=
  (by decide +kernel : ∀ n : Fin 128, bits .and .u8 ((n.val : Nat) : Int) 127 = ((n.val : Nat) : Int)) ⟨c.toNat, h⟩
/-- the block of marks -/
def HBlk (w : World) (g : Nat) (f : Nat → Bool) : Prop := w.heap[g]? = some (.cells (Array.ofFn (n := 128) fun d => .bool (f d.val)) 68 (0, 0))
set_option maxRecDepth 1000000 in
theorem zero_hb : Try.zeroCells68 = Array.ofFn (n := 128) fun _ => .bool false := by kernel_rfl
theorem HBlk.cell {w : World} {g : Nat} {f : Nat → Bool} (h : HBlk w g f) {d : Nat} (hd : d < 128) : w.cell? ⟨g, d, none⟩ = some (.bool (f d)) := by
  unfold HBlk at h
  rw [Lib.cell_of_heap h, Array.getElem?_ofFn, dif_pos hd]
theorem HBlk.frozen {w : World} {g : Nat} {f : Nat → Bool} (h : HBlk w g f) (i : Nat) : w.frozen? ⟨g, i, none⟩ = false := Lib.frozen_of_heap h i
theorem HBlk.set {w : World} {g : Nat} {f f' : Nat → Bool} (h : HBlk w g f) {d : Nat} (hd : d < 128) (h1 : ∀ e, e < 128 → e ≠ d → f' e = f e) : HBlk (w.setCell ⟨g, d, none⟩ (.bool (f' d))) g f' := by
  unfold HBlk at h ⊢
  suffices key : (Array.ofFn (n := 128) fun d => Value.bool (f d.val)).setIfInBounds d (.bool (f' d)) = Array.ofFn (n := 128) fun d => Value.bool (f' d.val) by
    rw [heap_setCell_same w g d _ _ _ h, key]
  apply Array.ext_getElem?
  intro i
  rw [Array.getElem?_setIfInBounds]
  by_cases hi : d = i
  · subst hi
    rw [if_pos rfl, if_pos (by rw [Array.size_ofFn]; exact hd), Array.getElem?_ofFn, dif_pos hd]
  · rw [if_neg hi, Array.getElem?_ofFn, Array.getElem?_ofFn]
    by_cases hlt : i < 128
    · rw [dif_pos hlt, dif_pos hlt, h1 i hlt (fun e => hi e.symm)]
    · rw [dif_neg hlt, dif_neg hlt]
theorem HBlk.keep {w w' : World} {g : Nat} {f : Nat → Bool} (h : HBlk w g f) (hb : Below w.heap.size w w') : HBlk w' g f := (hb.block g (Array.getElem?_eq_some_iff.1 h).1).trans h
theorem HBlk.grown {w w' : World} {g : Nat} {f : Nat → Bool} {r : Option Nat} (h : HBlk w g f) (hg : w.grownBy w' r) (hne : r ≠ some g) : HBlk w' g f := (hg.block g (Array.getElem?_eq_some_iff.1 h).1 (fun e => hne e.symm)).trans h
theorem HBlk.lt {w : World} {g : Nat} {f : Nat → Bool} (h : HBlk w g f) : g < w.heap.size := (Array.getElem?_eq_some_iff.1 h).1
theorem hb_new (w : World) : HBlk (w.alloc (.cells Try.zeroCells68 68)) w.heap.size (fun _ => false) := by
  have h := heap_alloc_new w (.cells Try.zeroCells68 68)
  unfold HBlk
  rw [h, zero_hb]
theorem HBlk.not_row {w : World} {g : Nat} {f : Nat → Bool} (h : HBlk w g f) {base : Nat} {e : TypeId} {n : Nat} {v : Value} {xs : List Value} (h' : w.ownsRow base e 1 v n xs) (hne : e ≠ 68) : v.ownBlock ≠ some g := by
  intro h1
  obtain ⟨c, fz, h3⟩ := own_kind h' g h1
  unfold HBlk at h
  rw [h] at h3
  injection h3 with h3
  injection h3 with _ h3
  exact hne h3.symm
/-- three rows of bytes, none in another's block -/
structure Three (B : Nat) (w : World) (a b c : Value) (la lb lc : Bs) : Prop where
  oa : OwnByts B w a la
  ob : OwnByts B w b lb
  oc : OwnByts B w c lc
  ab : ∀ q, a.ownBlock = some q → b.ownBlock ≠ some q
  ac : ∀ q, a.ownBlock = some q → c.ownBlock ≠ some q
  bc : ∀ q, b.ownBlock = some q → c.ownBlock ≠ some q
theorem Three.swap {B : Nat} {w : World} {a b c : Value} {la lb lc : Bs} (h : Three B w a b c la lb lc) : Three B w b a c lb la lc :=
  ⟨h.ob, h.oa, h.oc, fun q h1 h2 => h.ab q h2 h1, h.bc, h.ac⟩
theorem Three.turn {B : Nat} {w : World} {a b c : Value} {la lb lc : Bs} (h : Three B w a b c la lb lc) : Three B w a c b la lc lb :=
  ⟨h.oa, h.oc, h.ob, h.ac, h.ab, fun q h1 h2 => h.bc q h2 h1⟩
theorem Three.keep {B : Nat} {w w' : World} {a b c : Value} {la lb lc : Bs} (h : Three B w a b c la lb lc) (hb : Below w.heap.size w w') : Three B w' a b c la lb lc :=
  ⟨owns_keep h.oa hb, owns_keep h.ob hb, owns_keep h.oc hb, h.ab, h.ac, h.bc⟩
theorem Three.alloc {B : Nat} {w : World} {a b c : Value} {la lb lc : Bs} (h : Three B w a b c la lb lc) (o : Obj) : Three B (w.alloc o) a b c la lb lc := h.keep (below_alloc _ _)
theorem Three.drew {B : Nat} {w : World} {a b c : Value} {la lb lc : Bs} (h : Three B w a b c la lb lc) : Three B w.drew a b c la lb lc := h.keep (bdrewN (Below.refl _ _) 1)
theorem Three.drewN {B : Nat} {w : World} {a b c : Value} {la lb lc : Bs} (h : Three B w a b c la lb lc) (q : Nat) : Three B (w.drewN q) a b c la lb lc := h.keep (bdrewN (Below.refl _ _) q)
/-- an append to the first row -/
theorem Three.app {B : Nat} {w w' : World} {a b c v : Value} {la lb lc la' : Bs} (h : Three B w a b c la lb lc) (hv : OwnByts B w' v la') (hg : w.grownBy w' a.ownBlock) (hp : v.ownBlock = a.ownBlock ∨ v.ownBlock = some w.heap.size) : Three B w' v b c la' lb lc := by
  refine ⟨hv, own_kept h.ob hg fun q h1 h2 => h.ab q h2 h1, own_kept h.oc hg fun q h1 h2 => h.ac q h2 h1, fun q h1 h2 => ?_, fun q h1 h2 => ?_, h.bc⟩
  · rcases hp with h3 | h3
    · exact h.ab q (h3.symm.trans h1) h2
    · have h4 := (h.ob.lt q h2).2
      rw [h1] at h3
      injection h3 with h3
      omega
  · rcases hp with h3 | h3
    · exact h.ac q (h3.symm.trans h1) h2
    · have h4 := (h.oc.lt q h2).2
      rw [h1] at h3
      injection h3 with h3
      omega
theorem step_three {P : Program} {ops : Array Oper} {o : Oper} {a : Act} {K : Act → World → Prop} {Q : Exit → Act → World → Prop} {w : World} {E : Prop} (hgd : o.guard = none) (s x : Operand) (t : TypeId)
    (ho : o.op = .call { callee := .builtin .append, args := #[s, x], argTypes := #[t, t] }) {bytes : Nat} (he : Elem P t 5 1 bytes)
    {B : Nat} {va vb vc : Value} {la lb lc : Bs} (hs : a.eval s = va) (h3 : Three B w va vb vc la lb lc)
    {g c : Nat} {y : UInt8} (hx : a.eval x = .slice (some ⟨g, 0, none⟩) 1 c) (hy : w.cell? ⟨g, 0, none⟩ = some (.int .u8 y.toNat))
    (hn : la.length ≤ 1000000) (hbase : B ≤ w.heap.size)
    (h : ∀ v' w', Three B w' v' vb vc (la ++ [y]) lb lc → Below B w w' → w.grownBy w' va.ownBlock → K (a.put o.dst v') w') : if Region.wanted o (yielded ops a.tmps) = true then Oper.wp P o a w K Q else E := by
  have hw : Region.wanted o (yielded ops a.tmps) = true := by simp [Region.wanted, hgd]
  rw [if_pos hw]
  obtain ⟨ht, i, z, hi, hz, h4, h5, hzs, hsz, hby⟩ := he
  have hbytes : (la.length + 1) * bytes ≤ 1000001 * 1000 := Nat.mul_le_mul (by omega) hby
  obtain ⟨v', w', hrun, r1, r2, _, r3⟩ := run_append_own_at (P := P) w B t o.type 5 i z 1 bytes ht hi hz h4 h5 hzs hsz va la.length _ h3.oa ⟨g, 0, none⟩ 1 c [.int .u8 y.toNat] rfl (fun j u hj => by
    match j with
    | 0 => rw [Addr.add_lit]; simp at hj; rw [← hj]; exact hy
    | j + 1 => simp at hj) (fun u hu => by simp at hu; subst hu; rfl) (by unfold maxLen; omega) (by omega) hbase
  unfold Oper.wp execOp
  simp only [ho, resolve, invoke, builtin, Sem.run_bind, Sem.run_pure, Result.andThen_ok, List.map_toArray, List.map_cons, List.map_nil, hs, hx, hrun]
  exact h v' w' (h3.app (OwnByts.snoc r1) r2 r3) (grown_below h3.oa r2 hbase) r2
/-- three rows, and what is older than a world -/
structure Kp3 (w0 : World) (B : Nat) (a b c : Value) (la lb lc : Bs) (w : World) : Prop where
  below : Below w0.heap.size w0 w
  three : Three B w a b c la lb lc
theorem Kp3.keep {w0 w w' : World} {B : Nat} {a b c : Value} {la lb lc : Bs} (h : Kp3 w0 B a b c la lb lc w) (hb : Below w.heap.size w w') : Kp3 w0 B a b c la lb lc w' := ⟨Below.tr h.below hb, h.three.keep hb⟩
theorem Kp3.drew {w0 w : World} {B : Nat} {a b c : Value} {la lb lc : Bs} (h : Kp3 w0 B a b c la lb lc w) : Kp3 w0 B a b c la lb lc w.drew := h.keep (bdrewN (Below.refl _ _) 1)
/-- a new cell is kept by an append to an older row -/
theorem cell_grown {w w' : World} {r : Option Nat} (hg : w.grownBy w' r) {g : Nat} {y : Value} (h : w.cell? ⟨g, 0, none⟩ = some y) (hne : r ≠ some g) : w'.cell? ⟨g, 0, none⟩ = some y := by
  rw [← h]
  unfold World.cell?
  rw [hg.block g (cell_lt h) (fun e => hne e.symm)]
theorem own_old {w : World} {base : Nat} {e : TypeId} {n : Nat} {v : Value} {xs : List Value} (h : w.ownsRow base e 1 v n xs) {g : Nat} (hg : w.heap.size ≤ g) : v.ownBlock ≠ some g := fun h1 => by
  have := (h.lt g h1).2
  omega
#print axioms step_three
#print axioms lets_hi
#print axioms hb_new
#print axioms and_127
end Go.Proofs.Ytbnlkmblkokooaa

/- Contracts of Violation and Decompose. -/
import Derived.Test.YtnidalbfmicoiaaWalkDa
import Derived.Test.YtnidalbfmicoiaaWalkO
import Derived.Deep.AppendLies
namespace Go.Proofs.Ytnidalbfmicoiaa
open Go.RowKit

theorem vioE_bad (n s : Int) (l : List (Int × Int)) (v : Value) (w : World) (hv : Deps w v l) (hbad : ¬ ValidP n l [s]) :
    Calls Try.prog 60 #[.int .i64 n, v, .int .i64 s] w fun e w' => e = .returned (.tuple #[.agg #[.int .i64 0, .int .i64 0], .int .i64 2]) ∧ Below w.heap.size w w' := by
  have Hv := Lib.hid hv
  have Hbad := Lib.hid hbad
  clear hv hbad
  go_enter Try.func60, Try.ntmps60
  go_wp2_with fail
  have hx : (w.alloc (.cells #[.int .i64 0, .int .i64 0] 32)).cell? ⟨w.heap.size, 0, none⟩ = some (.int .i64 0) := by go_simp
  have hy : (w.alloc (.cells #[.int .i64 0, .int .i64 0] 32)).cell? ⟨w.heap.size, 1, none⟩ = some (.int .i64 0) := by go_simp
  have hfz : ∀ j, (w.alloc (.cells #[.int .i64 0, .int .i64 0] 32)).frozen? ⟨w.heap.size, j, none⟩ = false := fun j => World.frozen?_alloc_at _ _ _ _ rfl
  have hb0 : Below w.heap.size w (w.alloc (.cells #[.int .i64 0, .int .i64 0] 32)) := below_alloc _ _
  have hsz : (w.alloc (.cells #[.int .i64 0, .int .i64 0] 32)).heap.size = w.heap.size + 1 := by simp
  generalize w.alloc (.cells #[.int .i64 0, .int .i64 0] 32) = w2 at *
  refine (valid_no (by exact Deps.keep Hv.out (Below.tr hb0 (below_alloc _ _))) (by have := ints_one w2 s 3; rwa [hsz] at this) Hbad.out).mono ?_
  rintro e w' ⟨rfl, hb⟩
  have hb1 := Below.tr (below_alloc _ _) hb
  have hx4 := Below.keep hb1 hx
  have hy4 := Below.keep hb1 hy
  have hf4 : ∀ j, w'.frozen? ⟨w.heap.size, j, none⟩ = false := fun j => (Below.frozen hb1 (p := ⟨w.heap.size, j, none⟩) (by show w.heap.size < w2.heap.size; omega)).trans (hfz j)
  have hg0 := hf4 0
  have hg1 := hf4 1
  have Hb4 := Lib.hid (Below.tr hb0 hb1)
  clear hb1 hb hb0 hfz hf4
  go_wp2_with fail
  refine bodyPost_ret (v := .tuple #[.agg #[.int .i64 0, .int .i64 0], .int .i64 2]) (by simp [results, Try.results60, go_sem]; go_simp) rfl ⟨rfl, ?_⟩
  exact (Hb4.out.setCell (Nat.le_refl _) _).setCell (Nat.le_refl _) _

theorem vioE_ok {m S : Nat} {l : List DepN} (h : Okl m l) (hS : S < 2 ^ m) (v : Value) (w : World) (hv : Deps w v (castD l)) :
    Calls Try.prog 60 #[.int .i64 m, v, .int .i64 S] w fun e w' => (vioTo (cl l) S = none ∧ e = .returned (.tuple #[.agg #[.int .i64 0, .int .i64 0], .int .i64 5]) ∨ ∃ d, vioTo (cl l) S = some d ∧ e = .returned (.tuple #[.agg #[.int .i64 (d.1 : Nat), .int .i64 (d.2 : Nat)], .int .i64 0])) ∧ Below w.heap.size w w' := by
  obtain ⟨p1, p2⟩ := h.pow
  obtain ⟨F, hF⟩ : ∃ F, F = 2 ^ m := ⟨_, rfl⟩
  rw [← hF] at p1 p2 hS
  have hgood : ValidP m (castD l) [(S : Int)] := validP_nat h.h1 h.h8 h.h12 h.hl (t := [S]) (by simp; rw [← hF]; exact hS)
  have Hgood := Lib.hid hgood
  have Hv := Lib.hid hv
  have Hlt := Lib.hid h.lt
  have Hcl := Lib.hid (show ∀ k, k < F → cl l k < F from fun k hk => by rw [hF]; exact cl_lt_pow h.h8 h.hl (by omega))
  obtain ⟨a, b, off, cap, hva, -⟩ := Deps.get hv
  subst hva
  clear hv hgood hF
  go_enter Try.func60, Try.ntmps60
  go_wp2_with fail
  have hx : (w.alloc (.cells #[.int .i64 0, .int .i64 0] 32)).cell? ⟨w.heap.size, 0, none⟩ = some (.int .i64 0) := by go_simp
  have hy : (w.alloc (.cells #[.int .i64 0, .int .i64 0] 32)).cell? ⟨w.heap.size, 1, none⟩ = some (.int .i64 0) := by go_simp
  have hfz : ∀ j, (w.alloc (.cells #[.int .i64 0, .int .i64 0] 32)).frozen? ⟨w.heap.size, j, none⟩ = false := fun j => World.frozen?_alloc_at _ _ _ _ rfl
  have hb0 : Below w.heap.size w (w.alloc (.cells #[.int .i64 0, .int .i64 0] 32)) := below_alloc _ _
  have hsz : (w.alloc (.cells #[.int .i64 0, .int .i64 0] 32)).heap.size = w.heap.size + 1 := by simp
  generalize w.alloc (.cells #[.int .i64 0, .int .i64 0] 32) = w2 at *
  refine (valid_yes (by exact Deps.keep Hv.out (Below.tr hb0 (below_alloc _ _))) (by have := ints_one w2 (S : Int) 3; rwa [hsz] at this) Hgood.out).mono ?_
  rintro e w' ⟨rfl, hb⟩
  have Hb1 := Lib.hid (Below.tr (below_alloc _ _) hb)
  have Hb0 := Lib.hid hb0
  clear hb hb0
  go_wp2_with fail
  refine (closer_any _ _ _ _).mono ?_
  rintro e w3 ⟨rfl, hw3⟩
  have hbox := cell_new w' #[.slice a (castD l).length cap] 28 0
  have hb3 := below_alloc w' (.cells #[.slice a (castD l).length cap] 28)
  rw [hw3] at hbox hb3
  have Hbox := Lib.hid hbox
  have Hb3 := Lib.hid (Below.tr Hb1.out hb3)
  clear hw3 hbox hb3
  go_wp2_with fail
  refine (violation_any _ (cl l) F S p1 hS Hcl.out _ (closFn_closer Hlt.out p1 Hbox.out (Deps.keep Hv.out (Below.tr Hb0.out Hb3.out)))).mono ?_
  rintro e w4 ⟨he, hb4⟩
  have hb14 := Below.tr Hb3.out hb4
  have hx4 := Below.keep hb14 hx
  have hy4 := Below.keep hb14 hy
  have hf4 : ∀ j, w4.frozen? ⟨w.heap.size, j, none⟩ = false := fun j => (Below.frozen hb14 (p := ⟨w.heap.size, j, none⟩) (by show w.heap.size < w2.heap.size; omega)).trans (hfz j)
  have hg0 := hf4 0
  have hg1 := hf4 1
  have Hb4 := Lib.hid (Below.tr Hb0.out hb14)
  have hsz4 : w.heap.size < w4.heap.size := by have := hb14.size; omega
  clear hb14 hb4 hfz hf4 hx hy
  rcases he with ⟨hn, rfl⟩ | ⟨d, hn, rfl⟩
  · have Hn := Lib.hid hn
    clear hn
    go_wp2_with fail
    refine bodyPost_ret (v := .tuple #[.agg #[.int .i64 0, .int .i64 0], .int .i64 5]) (by simp [results, Try.results60, go_sem]; go_simp) rfl ⟨.inl ⟨Hn.out, rfl⟩, ?_⟩
    exact (Below.setCell (Below.setCell Hb4.out (p := ⟨w.heap.size, 0, none⟩) (Nat.le_refl _) _) (p := ⟨w.heap.size, 1, none⟩) (Nat.le_refl _) _).alloc (by simp; omega) _
  · have Hn := Lib.hid hn
    clear hn
    go_wp2_with fail
    refine bodyPost_ret (v := .tuple #[.agg #[.int .i64 (d.1 : Nat), .int .i64 (d.2 : Nat)], .int .i64 0]) (by simp [results, Try.results60, go_sem]; go_simp) rfl ⟨.inr ⟨d, Hn.out, rfl⟩, ?_⟩
    exact (Below.setCell (Below.setCell Hb4.out (p := ⟨w.heap.size, 0, none⟩) (Nat.le_refl _) _) (p := ⟨w.heap.size, 1, none⟩) (Nat.le_refl _) _).alloc (by simp; omega) _

/-- the sets to be looked at, in memory apart from a row -/
def Todo (w : World) (v : Value) (t : List Nat) (row : Option Nat) : Prop := ∃ b off cap, v = .slice (some ⟨b, off, none⟩) t.length cap ∧ t.length ≤ cap ∧ t.length ≤ 9223372036854775807 ∧ b < w.heap.size ∧ some b ≠ row ∧ ∀ j (h : j < t.length), w.cell? ⟨b, off + j, none⟩ = some (.int .i64 (t[j] : Nat))
def readN (w : World) (v : Value) : List Nat := match v with
  | .slice (some a) n _ => (List.range n).map fun j => match w.cell? ⟨a.block, a.off + j, none⟩ with | some (.int _ x) => x.toNat | _ => 0
  | _ => []
theorem Todo.read {w : World} {v : Value} {t : List Nat} {row : Option Nat} (h : Todo w v t row) : readN w v = t := by
  obtain ⟨b, off, cap, rfl, -, -, -, -, h⟩ := h
  apply List.ext_getElem
  · simp [readN]
  · intro i h1 h2
    simp only [readN, List.getElem_map, List.getElem_range]
    rw [h i h2]; simp
theorem Todo.grown {w w' : World} {v : Value} {t : List Nat} {row : Option Nat} (h : Todo w v t row) (hg : w.grownBy w' row) : Todo w' v t row := by
  obtain ⟨b, off, cap, rfl, h1, h2, h3, h4, h⟩ := h
  exact ⟨b, off, cap, rfl, h1, h2, Nat.lt_of_lt_of_le h3 hg.size, h4, fun j hj => hg.cell (h j hj) h4⟩
theorem Todo.keep {w w' : World} {v : Value} {t : List Nat} {row : Option Nat} (h : Todo w v t row) (hb : Below w.heap.size w w') : Todo w' v t row := by
  obtain ⟨b, off, cap, rfl, h1, h2, h3, h4, h⟩ := h
  exact ⟨b, off, cap, rfl, h1, h2, Nat.lt_of_lt_of_le h3 hb.size, h4, fun j hj => Below.keep hb (h j hj)⟩
theorem Todo.step {w w' : World} {v : Value} {t : List Nat} {row : Option Nat} {g : Nat} (h : Todo w v t row) (hg : w.grownBy w' row) (hr : row = some g ∨ g = w.heap.size) : Todo w' v t (some g) := by
  obtain ⟨b, off, cap, rfl, h1, h2, h3, h4, h⟩ := h
  refine ⟨b, off, cap, rfl, h1, h2, Nat.lt_of_lt_of_le h3 hg.size, ?_, fun j hj => hg.cell (h j hj) h4⟩
  rcases hr with rfl | rfl
  · exact h4
  · intro e; injection e with e; omega
theorem Todo.cells {w : World} {ad : Addr} {n c : Nat} {t : List Nat} {row : Option Nat} (h : Todo w (.slice (some ad) n c) t row) : ∀ j u, ((castN t).map (Value.int .i64))[j]? = some u → w.cell? (ad.add j) = some u := by
  obtain ⟨b, off, cap, e, h1, h2, h3, h4, h⟩ := h
  injection e with e5 e6 e7
  injection e5 with e5
  subst e5
  intro j u hu
  obtain ⟨hj, rfl⟩ := List.getElem?_eq_some_iff.1 hu
  have hj' : j < t.length := by simpa [castN] using hj
  rw [Addr.add_lit, h j hj']
  simp [castN]
theorem own_lit (w : World) {base g size : Nat} {e : TypeId} (cs : Array Value) (n : Nat) (hg : g = w.heap.size) (hb : base ≤ w.heap.size) (hm : n ≤ maxLen) (hs : cs.size = n * size) :
    (w.alloc (.cells cs e)).ownsRow base e size (.slice (some ⟨g, 0, none⟩) n n) n cs.toList := by
  subst hg; exact World.ownsRow_lit w cs n hb hm hs
theorem Todo.tail {w : World} {b off n cap S : Nat} {t : List Nat} {row : Option Nat} (hn : n = t.length) (hc : n + 1 ≤ cap) (h2 : n + 1 ≤ 9223372036854775807) (h3 : b < w.heap.size) (h4 : some b ≠ row) (h : ∀ j (h : j < (S :: t).length), w.cell? ⟨b, off + j, none⟩ = some (.int .i64 ((S :: t)[j] : Nat))) :
    Todo w (.slice (some ⟨b, if cap = 1 then off else off + 1, none⟩) n (cap - 1)) t row := by
  subst hn
  refine ⟨b, _, _, rfl, by omega, by omega, h3, h4, fun j hj => ?_⟩
  have := h (j + 1) (by simp; exact hj)
  rw [if_neg (by omega)]
  simpa [Nat.add_assoc, Nat.add_comm 1 j] using this
/-- append of elements that lie in a block of their own, and where the result lies -/
theorem append_lies {P : Program} {ops : Array Oper} {rest : List Oper} {o : Oper} {a : Act} {Q : Exit → Act → World → Prop} {w : World} (hgd : o.guard = none) (s x : Operand) (t : TypeId)
    (ho : o.op = .call { callee := .builtin .append, args := #[s, x], argTypes := #[t, t] }) {e : TypeId} {size bytes : Nat} (he : Elem P t e size bytes)
    {base n : Nat} {v : Value} {xs : List Value} (hs : a.eval s = v) (hown : w.ownsRow base e size v n xs)
    {g m c : Nat} (news : List Value) (hx : a.eval x = .slice (some ⟨g, 0, none⟩) m c) (hl : news.length = m * size) (hnews : ∀ j u, news[j]? = some u → w.cell? ⟨g, j, none⟩ = some u) (h1 : ∀ u ∈ news, u.oneCell' = true)
    (hm : 0 < m) (hn : n + m ≤ 100000000000) (hbase : base ≤ w.heap.size)
    (h : ∀ g' cap w', w'.ownsRow base e size (.slice (some ⟨g', 0, none⟩) (n + m) cap) (n + m) (xs ++ news) → Below base w w' → w.grownBy w' v.ownBlock → (v.ownBlock = some g' ∨ g' = w.heap.size) → wpList P ops Q rest (a.put o.dst (.slice (some ⟨g', 0, none⟩) (n + m) cap)) w') : wpList P ops Q (o :: rest) a w := by
  obtain ⟨ht, i, z, hi, hz, h3, h4, hzs, hsz, hby⟩ := he
  have hbytes : (n + m) * bytes ≤ 100000000000 * 1000 := Nat.mul_le_mul hn hby
  exact wpList_append_lies _ hgd s x t ho base e i z size bytes ht hi hz h3 h4 hzs hsz v n xs hs hown ⟨g, 0, none⟩ m c news hx hl (fun j u hj => by rw [Addr.add_lit, Nat.zero_add]; exact hnews j u hj) h1
    hm (by unfold maxLen; omega) (by omega) hbase w.heap.size rfl (fun g' cap w' h5 h6 h7 _ => h g' cap w' h5 (grown_below hown h6 hbase) h6 h7)
theorem Todo.of_own {w : World} {base k : Nat} {v : Value} {t : List Nat} {row : Option Nat} (h : w.ownsRow base 3 1 v k ((castN t).map (Value.int .i64))) (hk : k = t.length) (h0 : 0 < k) (hr : ∀ g, row = some g → g < base) : Todo w v t row := by
  have hr2 := owns_rd h
  rcases h.2 with ⟨rfl, rfl⟩ | ⟨g, cap, cur, rfl, hg, hh, hn, hc, -⟩
  · omega
  · subst hk
    have hI : Ints w (.slice (some ⟨g, 0, none⟩) t.length cap) (castN t) := by unfold Ints; rwa [show (castN t).length = t.length by simp [castN]]
    obtain ⟨a, b, off, cap', e1, e2, e3, e4⟩ := hI.get
    have e0 : (castN t).length = t.length := by simp [castN]
    rw [e0] at e1 e2 e3
    injection e1 with e5 e6 e7
    subst e5
    have := e3 h0
    injection this with e8
    injection e8 with e9 e10
    subst e9 e10
    refine ⟨g, 0, cap, rfl, hn, e2, ?_, ?_, fun j hj => ?_⟩
    · have := e4 0 (by omega)
      exact cell_lt this
    · intro e; have := hr g e.symm; omega
    · have := e4 j (by omega); simpa [castN] using this
theorem sum_two (a b : Nat) (t : List Nat) : a + b + wts t = wts t + a + b := by omega

set_option maxHeartbeats 4000000 in
set_option maxRecDepth 100000 in
theorem dec_F {m F : Nat} {l : List DepN} (hok : Okl m l) (hF : F = 2 ^ m) (r : List Nat) (hr : Run (cl l) [] [F - 1] r) (v : Value) (w : World) (hv : Deps w v (castD l)) :
    Calls Try.prog 61 #[.int .i64 m, v] w fun e w' => ∃ v', e = .returned (.tuple #[v', .int .i64 0]) ∧ Ints w' v' (castN r) ∧ Below w.heap.size w w' := by
  have hgood : ValidP m (castD l) [] := validP_nat hok.h1 hok.h8 hok.h12 hok.hl (t := []) (by simp)
  have H := Lib.hid (valid_yes hv (ints_nil w) hgood)
  obtain ⟨p1, p2⟩ := hok.pow
  rw [← hF] at p1 p2
  have Hlt := Lib.hid hok.lt
  have Hcl := Lib.hid (show ∀ k, k < F → cl l k < F from fun k hk => by rw [hF]; exact cl_lt_pow hok.h8 hok.hl (by omega))
  have Hsc := Lib.hid (show ∀ x, x < 256 → Sub x (cl l x) from fun x hx => sub_cl hx)
  have Hv := Lib.hid hv
  have HF := Lib.hid hF
  have Hr := Lib.hid hr
  have hm8 := hok.h8
  obtain ⟨a, b, off, cap, hva, -⟩ := Deps.get hv
  subst hva
  clear hv hgood hF hr
  go_enter Try.func61, Try.ntmps61
  go_wp2_with fail
  refine H.out.mono ?_
  rintro e w1 ⟨rfl, hb1⟩
  have Hb1 := Lib.hid hb1
  clear hb1 H
  go_wp2_with fail
  refine (closer_any _ _ _ _).mono ?_
  rintro e w2 ⟨rfl, hw2⟩
  have hbox := cell_new w1 #[.slice a (castD l).length cap] 28 0
  have hb2 := below_alloc w1 (.cells #[.slice a (castD l).length cap] 28)
  rw [hw2] at hbox hb2
  have Hbox := Lib.hid hbox
  have Hb2 := Lib.hid (Below.tr Hb1.out hb2)
  clear hw2 hbox hb2
  have Hfn := Lib.hid (closFn_closer Hlt.out p1 Hbox.out (Deps.keep Hv.out Hb2.out))
  go_wp2_with fail
  refine (full_F HF.out hm8 _).mono ?_
  rintro e w4 ⟨rfl, rfl⟩
  have Hb0 := Lib.hid (below_alloc w2 (.cells #[.int .i64 (F - 1 : Nat)] 3))
  have Ht0 := Lib.hid (show Todo (w2.alloc (.cells #[.int .i64 (F - 1 : Nat)] 3)) (.slice (some ⟨w2.heap.size, 0, none⟩) 1 1) [F - 1] none from ⟨_, 0, 1, rfl, Nat.le_refl _, by simp, by simp, by simp, fun j hj => by
    have : j = 0 := by simpa using hj
    subst this
    rw [Nat.zero_add, cell_new]; rfl⟩)
  go_wp2_with fail
  generalize w2.alloc (.cells #[.int .i64 (F - 1 : Nat)] 3) = w3 at *
  go_loopw [7, 8] (fun dn td wr => ∃ (x t : List Nat) (da : Option Addr) (k dc : Nat), dn = .slice da k dc ∧ k = x.length ∧ Below w2.heap.size w2 wr ∧ wr.ownsRow w2.heap.size 3 1 dn k ((castN x).map (Value.int .i64)) ∧ Todo wr td t dn.ownBlock ∧ Run (cl l) x t r ∧ wts (x ++ t) ≤ 511 ∧ ∀ S ∈ t, S < F) (fun dn td wr => wts (readN wr td))
  case atStart => exact ⟨[], [F - 1], none, 0, 0, rfl, rfl, Hb0.out, World.ownsRow_nil _ _ _ _, Ht0.out, Hr.out, by rw [List.nil_append, wts_cons]; exact wt_le, by intro S hS; simp at hS; omega⟩
  case round =>
    obtain ⟨x, t, da, k, dc, rfl, hkx, hb, hown, htd, hrun, hw511, htF⟩ := hrel
    have Hb := Lib.hid hb
    have Hown := Lib.hid hown
    have Htd := Lib.hid htd
    have Hrun := Lib.hid hrun
    have HtF := Lib.hid htF
    have Hm := Lib.hid htd.read
    have H511 := Lib.hid hw511
    have Hkx := Lib.hid hkx
    clear hkx hb hown hrun htF hw511
    cases t with
    | nil =>
      obtain ⟨tb, toff, tc, rfl, -, -, -, -, -⟩ := htd
      have e := Hrun.out.at_nil
      have HI := Lib.hid (show Ints wr (.slice da k dc) (castN r) by
        have hkx := Hkx.out; subst hkx; rw [e]; have := owns_rd Hown.out; unfold Ints; rwa [show (castN x).length = x.length by simp [castN]])
      clear e
      go_wp2_with fail
      go_ret2
      exact ⟨_, rfl, HI.out, Below.tr Hb2.out Hb.out⟩
    | cons S t =>
      obtain ⟨tb, toff, tc, rfl, h1, h2, h3, h4, h5⟩ := htd
      obtain ⟨n, hn⟩ : ∃ n, n = t.length := ⟨_, rfl⟩
      have e : (S :: t).length = n + 1 := by simp [hn]
      rw [e] at h1 h2 Htd Hm ⊢
      have Htl := Lib.hid (Todo.tail hn h1 h2 h3 h4 h5)
      have HtlA := Lib.hid (show tc = 1 → Todo wr (.slice (some ⟨tb, toff, none⟩) n 0) t (Value.slice da k dc).ownBlock from fun h => by have := Htl.out; rw [if_pos h, h] at this; exact this)
      have HtlB := Lib.hid (show ¬ tc = 1 → Todo wr (.slice (some ⟨tb, toff + 1, none⟩) n (tc - 1)) t (Value.slice da k dc).ownBlock from fun h => by have := Htl.out; rw [if_neg h] at this; exact this)
      have hS := HtF.out S (by simp)
      have hc0 : wr.cell? ⟨tb, toff, none⟩ = some (.int .i64 S) := by have := h5 0 (by simp); simpa using this
      have Hn := Lib.hid hn
      clear h1 h2 h3 h4 h5 e Htl hn
      have hlx : k ≤ 511 ∧ n ≤ 511 := by
        have h1 := length_wts (x ++ S :: t)
        have h2 := H511.out
        have h3 := Hn.out
        have h4 := Hkx.out
        rw [List.length_append, List.length_cons] at h1
        omega
      go_wp2_with fail
      all_goals (
        first | (have HT := Lib.hid (HtlA.out (by assumption))) | (have HT := Lib.hid (HtlB.out (by assumption)))
        refine (violation_any _ (cl l) F S p1 hS Hcl.out _ (Hfn.out.keep Hb.out)).mono ?_
        rintro e w4 ⟨he, hb4⟩
        have Hb4 := Lib.hid (Below.tr Hb.out hb4)
        have Hown4 := Lib.hid (owns_keep Hown.out hb4)
        have HT4 := Lib.hid (HT.out.keep hb4)
        clear hb4 HtlA HtlB HT
        rcases he with ⟨hvn, rfl⟩ | ⟨d, hd, rfl⟩
        · have Hrun' := Lib.hid (Hrun.out.at_none hvn)
          clear hvn
          go_wp2_with (at_builtin; refine append_lies rfl (.tmp 37) (.tmp 39) 56 rfl elem56 rfl ((Hown4.out.alloc _).alloc _) [.int .i64 S] rfl rfl (by intro j u hj; go_simp) (by intro u hu; simp at hu; subst hu; rfl) (by omega) (by omega) (by simp; have := Hb4.out.size; omega) ?_)
          intro g' cap' w6 hown6 hb6 hg6 hat6
          have HB := Lib.hid (((Hb4.out.alloc Hb4.out.size _).alloc (by simp; have := Hb4.out.size; omega) _).trans hb6)
          have HO := Lib.hid (show w6.ownsRow w2.heap.size 3 1 (.slice (some ⟨g', 0, none⟩) (k + 1) cap') (k + 1) ((castN (x ++ [S])).map (Value.int .i64)) by
            simpa [castN] using hown6)
          have HT7 := Lib.hid (((HT4.out.keep (below_alloc _ _)).keep (below_alloc _ _)).step hg6 (by simpa using hat6))
          clear hown6 hb6 hg6 hat6
          go_wp2_with fail
          go_roundw
          case rel => exact ⟨x ++ [S], t, _, _, _, rfl, by simp [Hkx.out], HB.out, HO.out, HT7.out, Hrun'.out, by have := H511.out; simpa using this, fun Y hY => HtF.out Y (by simp [hY])⟩
          case measure => rw [HT7.out.read]; have := Hm.out; rw [this, wts_cons]; have := wt_pos S; omega
        · obtain ⟨-, q1, q2, q3, q4, q5, -⟩ := split_parts (by omega) Hsc.out hd
          have Hrun' := Lib.hid (Hrun.out.at_some hd)
          have hd1 := q1.le
          have hd2 := q2.le
          have hA := q3.le
          have hB := q4.le
          have eor : bits .or .i64 (d.1 : Nat) (d.2 : Nat) = ((d.1 ||| d.2 : Nat) : Int) := bits_or_nat _ _ (by omega) (by omega)
          have ean : bits .andNot .i64 (S : Nat) (d.2 : Nat) = ((ndiff S d.2 : Nat) : Int) := bits_andNot_nat _ _ (by omega) (by omega)
          have Hq5 := Lib.hid q5
          clear hd q1 q2 q3 q4 q5
          go_wp2_with (at_builtin; refine append_own_at rfl (.tmp 50) (.tmp 51) 56 rfl elem56 rfl (own_lit (base := w4.heap.size) _ #[.int .i64 (d.1 ||| d.2 : Nat), .int .i64 (ndiff S d.2 : Nat)] 2 (by simp) (by simp) (by unfold maxLen; omega) rfl) ((castN t).map (Value.int .i64)) rfl (by simp [castN, Hn.out]) ?c1 (by intro u hu; simp at hu; obtain ⟨_, _, rfl⟩ := hu; rfl) (by omega) (by simp; omega) ?_)
          case c1 => exact ((HT4.out.keep (below_alloc _ _)).keep (below_alloc _ _)).cells
          intro v' w6 hown6 hb6 _
          have hb46 : Below w4.heap.size w4 w6 := ((below_alloc w4 _).alloc (by simp) _).trans hb6
          have HB := Lib.hid (Below.tr Hb4.out hb46)
          have HO := Lib.hid (owns_keep Hown4.out hb46)
          have HT7 := Lib.hid (Todo.of_own (t := (d.1 ||| d.2) :: ndiff S d.2 :: t) (row := (Value.slice da k dc).ownBlock) (by simpa [castN] using hown6) (by simp [Hn.out]; omega) (by omega) (fun g hg => (Hown4.out.lt g hg).2))
          obtain ⟨ta, tcc, hvt⟩ := ownRow_slice hown6
          clear hown6 hb6 hb46
          subst hvt
          go_wp2_with fail
          go_roundw
          case rel => exact ⟨x, _, _, _, _, rfl, Hkx.out, HB.out, HO.out, HT7.out, Hrun'.out, by have := H511.out; have := Hq5.out; simp only [wts_append, wts_cons] at *; omega, fun Y hY => by
            simp at hY
            rcases hY with rfl | rfl | hY
            · omega
            · omega
            · exact HtF.out Y (by simp [hY])⟩
          case measure => rw [HT7.out.read]; have := Hm.out; rw [this, wts_cons, wts_cons, wts_cons]; have := Hq5.out; omega)
end Go.Proofs.Ytnidalbfmicoiaa

/- Contracts of depend.follows, Follows, dep. -/
import Derived.Test.YtnidalbfmicoiaaWalkE
import Derived.Deep.RegionHeld3
import Derived.Deep.RegionWith
namespace Go.Proofs.Ytnidalbfmicoiaa
open Go.RowKit

theorem hold2 {w w' : World} {a b : Addr} {u v : Value} (h1 : w.cell? a = some u) (h2 : w.cell? b = some v) (h : Below w.heap.size w w') : w'.cell? a = some u ∧ w'.cell? b = some v ∧ Below w.heap.size w w' :=
  ⟨Below.keep h h1, Below.keep h h2, h⟩
theorem follows_any {l : List DepN} (hl : AllLt l 256) (s t : Nat) (hs : s < 256) (ht : t < 256) (v : Value) (w : World) (hv : Deps w v (castD l)) :
    Calls Try.prog 72 #[v, .agg #[.int .i64 s, .int .i64 t]] w fun e w' => e = .returned (.bool (decide (Sub t (cl l s)))) ∧ Below w.heap.size w w' := by
  have Hv := Lib.hid hv
  obtain ⟨a, b, off, cap, hva, -⟩ := Deps.get hv
  subst hva
  clear hv
  have hcl63 : cl l s < 2 ^ 63 := by have := cl_lt l s; omega
  have ht63 : t < 2 ^ 63 := by omega
  have hb0 := below_alloc w (.cells #[.int .i64 s, .int .i64 t] 32)
  have c0 := cell_new w #[.int .i64 s, .int .i64 t] 32 0
  have c1 := cell_new w #[.int .i64 s, .int .i64 t] 32 1
  have hz : (w.alloc (.cells #[.int .i64 (s : Int), .int .i64 (t : Int)] 32)).heap.size = w.heap.size + 1 := by simp
  go_enter Try.func72, Try.ntmps72
  go_wp2_with fail
  generalize w.alloc (.cells #[.int .i64 (s : Int), .int .i64 (t : Int)] 32) = w0 at *
  have Hb0 := Lib.hid hb0
  have Hz := Lib.hid hz
  clear hb0 hz
  go_region_held3 (fun w' => w'.cell? ⟨w.heap.size, 0, none⟩ = some (.int .i64 s) ∧ w'.cell? ⟨w.heap.size, 1, none⟩ = some (.int .i64 t) ∧ Below w0.heap.size w0 w')
    (first | exact ⟨c0, c1, (Below.refl _ _).drew⟩ | exact hold2 c0 c1 (below_alloc _ _).drew | exact hold2 c0 c1 (Below.tr (below_alloc _ _).drew hb2) | (trace_state; fail))
    (first | (go_at_call 71; refine (closer_any _ _ _ _).mono ?_; rintro e w' ⟨rfl, rfl⟩) | (go_at_call 94; refine (closer1_any l hl s _ hs _ _ (by exact cell_new _ _ _ _) (by exact Deps.keep Hv.out (Below.tr Hb0.out (below_alloc _ _).drew))).mono ?_; rintro e w' ⟨rfl, hb2⟩) | (go_at_call 75; refine (contains_any _ _ hcl63 ht63 _).mono ?_; rintro e w' ⟨rfl, rfl⟩))
  go_wp2_with fail
  go_ret
  exact ⟨rfl, Below.tr Hb0.out (Below.tr (below_alloc _ _).drew hb2)⟩

theorem ints_two (w : World) (s t : Int) (e : TypeId) (k : Nat) (hk : k = w.heap.size) : Ints (w.alloc (.cells #[.int .i64 s, .int .i64 t] e)) (.slice (some ⟨k, 0, none⟩) 2 2) [s, t] := by
  subst hk; exact rd_new w #[.int .i64 s, .int .i64 t] e 1 2 rfl (by unfold maxLen; omega)

/-- a dependency that has sets -/
def InSets (n : Int) (d : Int × Int) : Prop := InSet n d.1 ∧ InSet n d.2
instance (n : Int) (d : Int × Int) : Decidable (InSets n d) := inferInstanceAs (Decidable (_ ∧ _))
theorem Okl.valid2 {m : Nat} {l : List DepN} (h : Okl m l) (s t : Int) : ValidP m (castD l) [s, t] ↔ InSet m s ∧ InSet m t := by
  have := validP_nat (t := []) h.h1 h.h8 h.h12 h.hl (by simp)
  exact ⟨fun hv => ⟨hv.2.2 s (by simp), hv.2.2 t (by simp)⟩, fun hs => ⟨this.1, this.2.1, fun x hx => by simp at hx; rcases hx with rfl | rfl; exact hs.1; exact hs.2⟩⟩

theorem followsE_bad (n s t : Int) (l : List (Int × Int)) (v : Value) (w : World) (hv : Deps w v l) (hbad : ¬ ValidP n l [s, t]) :
    Calls Try.prog 23 #[.int .i64 n, v, .agg #[.int .i64 s, .int .i64 t]] w fun e w' => e = .returned (.tuple #[.bool false, .int .i64 2]) ∧ Below w.heap.size w w' := by
  have Hv := Lib.hid hv
  have Hbad := Lib.hid hbad
  clear hv hbad
  go_enter Try.func23, Try.ntmps23
  go_wp2_with fail
  refine (valid_no (by exact Deps.keep Hv.out (Below.tr (below_alloc _ _) (below_alloc _ _))) (by exact ints_two _ s t _ _ (by simp)) Hbad.out).mono ?_
  rintro e w' ⟨rfl, hb⟩
  go_wp2
  go_ret2
  exact ⟨rfl, Below.tr (below_alloc _ _) (Below.tr (below_alloc _ _) hb)⟩
theorem followsE_ok {m s t : Nat} {l : List DepN} (h : Okl m l) (hs : s < 2 ^ m) (ht : t < 2 ^ m) (v : Value) (w : World) (hv : Deps w v (castD l)) :
    Calls Try.prog 23 #[.int .i64 m, v, .agg #[.int .i64 s, .int .i64 t]] w fun e w' => e = .returned (.tuple #[.bool (decide (Sub t (cl l s))), .int .i64 0]) ∧ Below w.heap.size w w' := by
  have hp := h.pow
  have hgood : ValidP m (castD l) [(s : Int), (t : Int)] := validP_nat h.h1 h.h8 h.h12 h.hl (t := [s, t]) (by simp; exact ⟨hs, ht⟩)
  have Hgood := Lib.hid hgood
  have Hv := Lib.hid hv
  have Hs := Lib.hid (show s < 256 by omega)
  have Ht := Lib.hid (show t < 256 by omega)
  have b0 := below_alloc w (.cells #[.int .i64 (s : Int), .int .i64 (t : Int)] 32)
  have c0 := cell_new w #[.int .i64 (s : Int), .int .i64 (t : Int)] 32 0
  have c1 := cell_new w #[.int .i64 (s : Int), .int .i64 (t : Int)] 32 1
  have C0 := Lib.hid (fun w2 h2 => Below.keep (w' := w2) h2 c0)
  have C1 := Lib.hid (fun w2 h2 => Below.keep (w' := w2) h2 c1)
  clear hv hgood hs ht hp c0 c1
  go_enter Try.func23, Try.ntmps23
  go_wp2_with fail
  refine (valid_yes (by exact Deps.keep Hv.out (Below.tr b0 (below_alloc _ _))) (by exact ints_two _ _ _ _ _ (by simp)) Hgood.out).mono ?_
  rintro e w1 ⟨rfl, hb⟩
  have hb1 := Below.tr (below_alloc _ _) hb
  have k0 := C0.out _ hb1
  have k1 := C1.out _ hb1
  have Hb1 := Lib.hid (Below.tr b0 hb1)
  clear hb hb1 b0 C0 C1
  go_wp2_with fail
  refine (follows_any h.lt s t Hs.out Ht.out _ _ (Deps.keep Hv.out Hb1.out)).mono ?_
  rintro e w2 ⟨rfl, hb2⟩
  go_wp2
  go_ret2
  exact ⟨rfl, Below.tr Hb1.out hb2⟩
theorem followsE_set {m : Nat} {l : List DepN} (h : Okl m l) (s t : Int) (v : Value) (w : World) (hv : Deps w v (castD l)) :
    Calls Try.prog 23 #[.int .i64 m, v, .agg #[.int .i64 s, .int .i64 t]] w fun e w' => ∃ c r, e = .returned (.tuple #[.bool c, .int .i64 r]) ∧
      ((¬ (InSet m s ∧ InSet m t) ∧ c = false ∧ r = 2) ∨ ∃ s' t' : Nat, s = s' ∧ t = t' ∧ s' < 2 ^ m ∧ t' < 2 ^ m ∧ c = decide (Sub t' (cl l s')) ∧ r = 0) ∧ Below w.heap.size w w' := by
  by_cases hs : InSet m s ∧ InSet m t
  · obtain ⟨s', rfl, hs'⟩ := hs.1.nat
    obtain ⟨t', rfl, ht'⟩ := hs.2.nat
    exact (followsE_ok h hs' ht' v w hv).mono fun e w' ⟨he, hb⟩ => ⟨_, _, he, .inr ⟨s', t', rfl, rfl, hs', ht', rfl, rfl⟩, hb⟩
  · exact (followsE_bad m s t _ v w hv (fun hq => hs ((h.valid2 s t).1 hq))).mono fun e w' ⟨he, hb⟩ => ⟨_, _, he, .inl ⟨hs, rfl, rfl⟩, hb⟩

theorem dep_any (s t : Int) (w : World) :
    Calls Try.prog 24 #[.agg #[.int .i64 s, .int .i64 t]] w fun e w' => e = .returned (.agg #[.int .i64 s, .int .i64 t]) ∧ Below w.heap.size w w' := by
  go_enter Try.func24, Try.ntmps24
  go_wp2
  exact bodyPost_ret (v := .agg #[.int .i64 s, .int .i64 t]) (by simp [results, Try.results24, go_sem]) rfl ⟨rfl, by repeat (first | exact Below.refl _ _ | refine Below.setCell ?_ (by simp) _ | refine Below.alloc ?_ (by simp) _)⟩
end Go.Proofs.Ytnidalbfmicoiaa

/- Contract of Danger's closure. -/
import Derived.Test.YtpehbffkplmfjaaSnm
namespace Go.Proofs.Ytpehbffkplmfjaa
open Go.RowKit
theorem infoTri : (Try.prog.info? 48).map (fun i => (i.zero, i.size, i.bytes)) = some (some (.agg #[.int .i64 0, .int .i64 0, .int .i64 0]), 3, 24) := by kernel_rfl
theorem elemTri : Elem Try.prog 43 48 3 24 := elem_of Try.underlying43 infoTri rfl (by omega) (by omega)
/-- what the closure keeps: its box and the row in it -/
structure Dk (w0 wr : World) (v : Value) (R : List NOp) : Prop where
  b : Below w0.heap.size w0 wr
  k : Blk wr w0.heap.size 43 1 (fun _ => v)
  o : OwnOps 48 (w0.heap.size + 1) wr v (castO R)
theorem Dk.keep {w0 wr w' : World} {v : Value} {R : List NOp} (h : Dk w0 wr v R) (hb : Below wr.heap.size wr w') : Dk w0 w' v R := ⟨Below.tr h.b hb, Blk.keep h.k hb, h.o.keep hb⟩
theorem quiet_below {n : FuncId} {args : Array Value} {w : World} {r : Value} (h : Calls Try.prog n args w fun e w' => e = .returned r ∧ ∃ m, w' = w.drewN m) : Calls Try.prog n args w fun e w' => e = .returned r ∧ Below w.heap.size w w' :=
  h.mono (by rintro e w'' ⟨rfl, m, rfl⟩; exact ⟨rfl, bdrewN (Below.refl _ _) m⟩)
theorem castO_append (a b : List NOp) : castO (a ++ b) = castO a ++ castO b := by simp [castO]
theorem castO_snoc2 (h : List NOp) (t q x : Nat) : castO (h ++ [(t, q, x)]) = castO h ++ [((t : Int), (q : Int), (x : Int))] := by simp [castO]
set_option maxRecDepth 100000 in
set_option maxHeartbeats 8000000 in
theorem danger1_any {w0 w : World} {b ps : Nat} {h : List NOp} {l : List Nat} {u v : Value} {R : List NOp} (s : SnB w0 b h (snW h h.length) (snR h h.length) u) (hin : Ints w0 u (castN l)) (hp : w0.cell? ⟨ps, 0, none⟩ = some (.pointer (some ⟨b, 0, none⟩)))
    (h7 : ∀ x, x ∈ l → x < 7) (hl : l.length ≤ 7) (hW : ∀ x, snW h h.length x < 128) (hF : ∀ x, snR h h.length x < 128) (hk : Dk w0 w v R) (hR : R.length ≤ 1000)
    {x y : Nat} (hx : x ∈ l) (hy : y ∈ l) (hne : x ≠ y) :
    Calls Try.prog 70 #[.int .i64 x, .int .i64 y, .pointer (some ⟨ps, 0, none⟩), .pointer (some ⟨w0.heap.size, 0, none⟩)] w fun e w' => e = .returned (.tuple #[]) ∧ ∃ v', Dk w0 w' v' (R ++ dgZ h l x y l.length) := by
  have HO := Lib.hid (fun (a c : Nat) (ha : a ∈ l) (hc : c ∈ l) (w' : World) (hb : Below w0.heap.size w0 w') => quiet_below (overlap_any (show SnB w' b h _ _ u from Blk.keep s hb) (h7 _ ha) (h7 _ hc) _ rfl))
  have HM := Lib.hid (fun (a c : Nat) (ha : a ∈ l) (hc : c ∈ l) (w' : World) (hb : Below w0.heap.size w0 w') => quiet_below (misses_any (show SnB w' b h _ _ u from Blk.keep s hb) (h7 _ ha) (h7 _ hc) (hF _) (hW _) _ rfl))
  have Hp := Lib.hid (fun (w' : World) (hb : Below w0.heap.size w0 w') => show w'.cell? ⟨ps, 0, none⟩ = some (.pointer (some ⟨b, 0, none⟩)) from Below.keep hb hp)
  obtain ⟨A1, b1, f1, c1, rfl, _, ha1, hc1⟩ := IntsN.get hin
  have Hli := Lib.hid (fun (w' : World) (hb : Below w0.heap.size w0 w') => (show SnB w' b h _ _ _ from Blk.keep s hb).li)
  have Hix := Lib.hid (run_ix (P := Try.prog) (t := 24) (a := A1) (len := l.length) (cap := c1) (b := b1) (off := f1) (s := 1) Try.underlying24 (by intro w; kernel_rfl) ha1)
  simp only [Nat.mul_one] at Hix
  have Hc := Lib.hid (fun (w' : World) (hb : Below w0.heap.size w0 w') i hi => Below.keep hb (hc1 i hi))
  have Hk := Lib.hid hk
  have Hm := Lib.hid (fun k (hk : k < l.length) => getD_mem hk)
  have Hz0 := Lib.hid (fun q => show R ++ dgZ h l x y l.length = R from by rw [dgZ_no q, List.append_nil])
  have Hzz := Lib.hid (show R ++ dgZ h l x y 0 = R from by unfold dgZ; split <;> simp)
  have Hzs := Lib.hid (fun k (hk : k < l.length) => dgZ_step (h := h) (x := x) (y := y) hk)
  have Hzl := Lib.hid (fun k => dgZ_le (h := h) (l := l) (x := x) (y := y) (k := k) hl)
  have HDg := Lib.hid (show ∀ a c, a ≠ c → (Dg h a c ↔ Ovl h a c ∧ Mis h (snW h h.length) (snR h h.length) a c) from fun a c q => by unfold Dg An; exact ⟨fun r => ⟨r.2, r.1.2⟩, fun r => ⟨⟨q, r.2⟩, r.1⟩⟩)
  have HDn := Lib.hid (show ∀ a, ¬ Dg h a a from fun a q => q.1.1 rfl)
  have Hx := Lib.hid hx
  have Hy := Lib.hid hy
  have hpw := Hp.out w hk.b
  have Hne := Lib.hid hne
  clear s hin hp h7 hW hF hk ha1 hc1 hx hy hne
  have HC1 := Lib.hid (HO.out x y Hx.out Hy.out w Hk.out.b)
  have HC2 := Lib.hid (fun w' hb => HM.out x y Hx.out Hy.out w' hb)
  by_cases e1 : Ovl h x y
  · have He1 := Lib.hid e1
    rw [decide_eq_true e1] at HC1
    clear e1
    go_enter Try.func70, Try.ntmps70
    go_wp2_with fail
    refine HC1.out.mono ?_
    rintro e w1 ⟨rfl, hb1⟩
    have Hk1 := Lib.hid (Hk.out.keep hb1)
    have hpw1 := Hp.out w1 Hk1.out.b
    clear hb1 hpw
    by_cases e2 : Mis h (snW h h.length) (snR h h.length) x y
    · rw [decide_eq_true e2] at HC2
      have HD := Lib.hid ((HDg.out x y Hne.out).2 ⟨He1.out, e2⟩)
      clear e2
      go_wp2_with fail
      refine (HC2.out _ Hk1.out.b).mono ?_
      rintro e w2 ⟨rfl, hb2⟩
      have Hk2 := Lib.hid (Hk1.out.keep hb2)
      have hpw2 := Hp.out w2 Hk2.out.b
      have hli := Hli.out w2 Hk2.out.b
      clear hb2 hpw1 HC1 HC2
      have Hst := Lib.hid (show Dk w0 w2 v (R ++ dgZ h l x y 0) from by rw [Hzz.out]; exact Hk2.out)
      clear Hk2 Hk1 Hk Hzz
      go_wp2_with fail
      go_loopw [25] (fun vi wr => ∃ (k : Nat) (v : Value), vi = .int .i64 k ∧ k ≤ l.length ∧ Dk w0 wr v (R ++ dgZ h l x y k)) (fun vi _ => l.length - (intOf vi).toNat)
      case atStart => exact ⟨0, v, rfl, Nat.zero_le _, Hst.out⟩
      case round =>
        clear Hst hpw2 hli
        obtain ⟨k, v', rfl, hk, hK⟩ := hrel
        have HK := Lib.hid hK
        clear hK
        by_cases hkl : k < l.length
        · have hixk := Hix.out k
          have hck := Hc.out wr HK.out.b k hkl
          have HS := Lib.hid (Hzs.out k hkl)
          have mz := Lib.hid (Hm.out k hkl)
          obtain ⟨z, hz⟩ : ∃ z, z = l.getD k 0 := ⟨_, rfl⟩
          rw [← hz] at hck HS mz
          clear hz
          have hpr := Hp.out wr HK.out.b
          by_cases e3 : z = y
          · have q3 : ((z : Int) != (y : Int)) = false := by rw [bne_eq_false_iff_eq]; omega
            have RR := Lib.hid (show dgZ h l x y (k + 1) = dgZ h l x y k from by rw [HS.out, if_neg]; rintro ⟨_, r⟩; rw [e3] at r; exact HDn.out _ r)
            clear e3
            go_wp2_with fail
            go_roundw
            case rel => exact ⟨k + 1, _, by go_num, by omega, by rw [RR.out]; exact HK.out⟩
            case measure => simp [intOf]; omega
          · have q3 : ((z : Int) != (y : Int)) = true := by rw [bne_iff_ne]; omega
            have HDy := Lib.hid (HDg.out y z (fun q => e3 q.symm))
            have HC3 := Lib.hid (HO.out y z Hy.out mz.out wr HK.out.b)
            have HC4 := Lib.hid (fun w' hb => HM.out y z Hy.out mz.out w' hb)
            clear e3
            go_wp2_with fail
            refine HC3.out.mono ?_
            rintro e w4 ⟨rfl, hb4⟩
            have HK4 := Lib.hid (HK.out.keep hb4)
            have hp4 := Hp.out w4 HK4.out.b
            clear hb4 hpr hck hixk
            by_cases e4 : Ovl h y z
            · have q4 : decide (Ovl h y z) = true := decide_eq_true e4
              have He4 := Lib.hid e4
              clear e4
              go_wp2_with fail
              refine (HC4.out _ HK4.out.b).mono ?_
              rintro e w5 ⟨rfl, hb5⟩
              have HK5 := Lib.hid (HK4.out.keep hb5)
              clear hb5 hp4
              by_cases e5 : Mis h (snW h h.length) (snR h h.length) y z
              · have q5 : decide (Mis h (snW h h.length) (snR h h.length) y z) = true := decide_eq_true e5
                have RR := Lib.hid (show R ++ dgZ h l x y (k + 1) = (R ++ dgZ h l x y k) ++ [(x, y, z)] from by rw [HS.out, if_pos ⟨HD.out, HDy.out.2 ⟨He4.out, e5⟩⟩, List.append_assoc])
                have hzl := Hzl.out k
                have hbx := Blk.at HK5.out.k (show 0 < 1 by omega)
                obtain ⟨va, vc, rfl⟩ := own_slice HK5.out.o
                clear e5
                go_wp2_with (at_builtin; refine append_own rfl (.tmp 44) (.tmp 49) 43 rfl elemTri rfl (World.ownsRow.alloc HK5.out.o _) [.int .i64 x, .int .i64 y, .int .i64 z] rfl rfl ?c1 ?c2 ?c3 ?c4 ?_)
                case c1 =>
                  intro j u hj
                  rw [cell_new]
                  simpa using hj
                case c2 => intro u hu; simp at hu; rcases hu with rfl | rfl | rfl <;> rfl
                case c3 => rw [castO_length, List.length_append]; omega
                case c4 => have := HK5.out.k.lt; simp; omega
                intro v2 w6 r1 r2 _
                obtain ⟨na, nc, rfl⟩ := own_slice r1
                have hbn := below_alloc w5 (.cells #[.int .i64 x, .int .i64 y, .int .i64 z] 48)
                have Hk6 := Lib.hid (show Blk w6 w0.heap.size 43 1 _ from (r2.block _ (Nat.lt_succ_self _)).trans (Blk.keep HK5.out.k hbn))
                have hbx6 := Blk.at Hk6.out (show 0 < 1 by omega)
                have hfz6 := Blk.fz Hk6.out 0
                have HKn := Lib.hid (show Dk w0 (w6.setCell ⟨w0.heap.size, 0, none⟩ (.slice na ((castO (R ++ dgZ h l x y k)).length + 1) nc)) (.slice na ((castO (R ++ dgZ h l x y k)).length + 1) nc) (R ++ dgZ h l x y (k + 1)) from
                  ⟨((Below.tr HK5.out.b hbn).trans (r2.mono (Nat.le_succ _))).setCell (Nat.le_refl _) _, (Blk.put Hk6.out 0 _).congr (fun j hj => if_pos (by omega)), by
                    rw [RR.out, castO_snoc2]
                    exact ownsRow_setCell_below (OwnOps.snoc r1) (Nat.lt_succ_self _) _⟩)
                clear r1 r2 hbn hbx
                go_wp2_with fail
                go_roundw
                case rel => exact ⟨k + 1, _, by go_num, by omega, HKn.out⟩
                case measure => simp [intOf]; omega
              · have q5 : decide (Mis h (snW h h.length) (snR h h.length) y z) = false := decide_eq_false e5
                have RR := Lib.hid (show dgZ h l x y (k + 1) = dgZ h l x y k from by rw [HS.out, if_neg]; rintro ⟨_, r⟩; exact e5 (HDy.out.1 r).2)
                clear e5
                go_wp2_with fail
                go_roundw
                case rel => exact ⟨k + 1, _, by go_num, by omega, by rw [RR.out]; exact HK5.out⟩
                case measure => simp [intOf]; omega
            · have q4 : decide (Ovl h y z) = false := decide_eq_false e4
              have RR := Lib.hid (show dgZ h l x y (k + 1) = dgZ h l x y k from by rw [HS.out, if_neg]; rintro ⟨_, r⟩; exact e4 (HDy.out.1 r).1)
              clear e4
              go_wp2_with fail
              go_roundw
              case rel => exact ⟨k + 1, _, by go_num, by omega, by rw [RR.out]; exact HK4.out⟩
              case measure => simp [intOf]; omega
        · obtain rfl : k = l.length := by omega
          go_wp2_with fail
          go_end0
          exact ⟨rfl, _, HK.out⟩
    · rw [decide_eq_false e2] at HC2
      have RR := Lib.hid (Hz0.out (fun q => e2 ((HDg.out x y Hne.out).1 q).2))
      clear e2
      go_wp2_with fail
      refine (HC2.out _ Hk1.out.b).mono ?_
      rintro e w2 ⟨rfl, hb2⟩
      have Hk2 := Lib.hid (Hk1.out.keep hb2)
      clear hb2
      go_wp2_with fail
      refine bodyPost_ret (results_none rfl _ _ _) rfl ?_
      exact ⟨rfl, _, by rw [RR.out]; exact Hk2.out⟩
  · rw [decide_eq_false e1] at HC1
    have RR := Lib.hid (Hz0.out (fun q => e1 q.2))
    clear e1
    go_enter Try.func70, Try.ntmps70
    go_wp2_with fail
    refine HC1.out.mono ?_
    rintro e w1 ⟨rfl, hb1⟩
    have Hk1 := Lib.hid (Hk.out.keep hb1)
    clear hb1
    go_wp2_with fail
    refine bodyPost_ret (results_none rfl _ _ _) rfl ?_
    exact ⟨rfl, _, by rw [RR.out]; exact Hk1.out⟩
theorem entDg (c1 c2 : Value) (x y : Int) (w : World) : (callFunc 70 #[.int .i64 x, .int .i64 y, c1, c2]).run Try.prog w = .ok (.enter 70 #[.int .i64 x, .int .i64 y, c1, c2]) w := by
  kernel_rfl
#print axioms danger1_any
end Go.Proofs.Ytpehbffkplmfjaa

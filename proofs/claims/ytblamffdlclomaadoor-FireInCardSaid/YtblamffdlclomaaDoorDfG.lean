/- The contracts of dayform.dates and of its closure: the dates from one on, each one a step further, are handed, with their days of the week, to whatever loop they are ranged over by. -/
import Derived.Test.YtblamffdlclomaaDoorDfA
import Derived.Test.YtblamffdlclomaaDoorRgO
import Derived.Test.YtblamffdlclomaaDoorTrp
import Derived.Sort.QuietIn
import Derived.Stop.RegionWithIn
import Derived.BigRegionIn
import Derived.LoopNIn
import Derived.LoopIn
import Derived.WalkMore
namespace Go.Proofs.YtblamffdlclomaaDoor
open Go.RowKit
attribute [local go_sem] Oper.semAt_some

abbrev Dx : Type := { x : Int × Int × Int // okD x.1 x.2.1 x.2.2 }
def dD (x : Dx) : Int := dayN x.1.1 x.1.2.1 x.1.2.2
def dxV (x : Dx) : Array Value := #[.agg #[.int .i64 x.1.1, .int .i64 x.1.2.1, .int .i64 x.1.2.2], .int .i64 (wkD (dD x))]
/-- The dates lie one step after another, from day a on. -/
def RowD (a st : Int) (xs : List Dx) : Prop := ∀ (i : Nat) (z : Dx), xs[i]? = some z → dD z = a + st * (i : Int)
theorem row_nil (a st : Int) : RowD a st [] := fun i z h => by simp at h
theorem row_snoc {a st : Int} {xs : List Dx} {z : Dx} (h : RowD a st xs) (hz : dD z = a + st * (xs.length : Int)) : RowD a st (xs ++ [z]) := fun i u hu => by
  by_cases hi : i < xs.length
  · rw [List.getElem?_append_left hi] at hu; exact h i u hu
  · rw [List.getElem?_append_right (by omega)] at hu
    by_cases he : i = xs.length
    · subst he
      simp at hu
      rw [← hu]; exact hz
    · rw [List.getElem?_eq_none (by simp; omega)] at hu; cases hu
theorem dx_in (x : Dx) : inR (dD x) := day_bd x.2

theorem day_step {st a : Int} {n : Nat} (hs : st = 1 ∨ st = -1) (h0 : inR a) (h1 : inR (a + st * (n : Int))) : n < 80000000 := by
  unfold inR at h0 h1
  rcases hs with rfl | rfl <;> omega

theorem week_quiet (a : Int) (w : World) (h1 : -9223372036854775808 ≤ a) (h2 : a ≤ 9223372036854775807) :
    Calls Tryd.prog 49 #[.int .i64 a] w fun e w' => e = .returned (.int .i64 (wkD a)) ∧ w = w' := by
  have := weekday_any a w h1 h2
  rwa [show (a % 7 + 4) % 7 = wkD a by unfold wkD; omega] at this

theorem drawn_below (B : Nat) (W : World) (n : Nat) : Below B W (W.drewN n) := ⟨rfl, rfl, rfl, Nat.le_refl _, fun _ _ => rfl⟩
theorem set_three {W : World} {g : Nat} {a b c x y z : Int} {t : TypeId} (h : W.heap[g]? = some (.cells #[.int .i64 a, .int .i64 b, .int .i64 c] t (0, 0))) :
    (((W.setCell ⟨g, 0, none⟩ (.int .i64 x)).setCell ⟨g, 1, none⟩ (.int .i64 y)).setCell ⟨g, 2, none⟩ (.int .i64 z)).heap[g]? = some (.cells #[.int .i64 x, .int .i64 y, .int .i64 z] t (0, 0)) := by
  have := tset (i := 2) (tset (i := 1) (tset (i := 0) h (.int .i64 x)) (.int .i64 y)) (.int .i64 z)
  simpa using this
theorem below_three {W : World} {g B : Nat} (hg : B ≤ g) (x y z : Int) : Below B W (((W.setCell ⟨g, 0, none⟩ (.int .i64 x)).setCell ⟨g, 1, none⟩ (.int .i64 y)).setCell ⟨g, 2, none⟩ (.int .i64 z)) :=
  (((Below.refl B W).setCell (p := ⟨g, 0, none⟩) hg _).setCell (p := ⟨g, 1, none⟩) hg _).setCell (p := ⟨g, 2, none⟩) hg _
/-- Where a block of three numbers lies, its cells read so, and may be written. -/
theorem three_at {W : World} {g : Nat} {a b c : Int} {t : TypeId} (h : W.heap[g]? = some (.cells #[.int .i64 a, .int .i64 b, .int .i64 c] t (0, 0))) :
    W.cell? ⟨g, 0, none⟩ = some (.int .i64 a) ∧ W.cell? ⟨g, 1, none⟩ = some (.int .i64 b) ∧ W.cell? ⟨g, 2, none⟩ = some (.int .i64 c) ∧ W.frozen? ⟨g, 0, none⟩ = false ∧ W.frozen? ⟨g, 1, none⟩ = false ∧ W.frozen? ⟨g, 2, none⟩ = false ∧ g < W.heap.size :=
  ⟨cell_of_row W g 0 _ _ (0, 0) h, cell_of_row W g 1 _ _ (0, 0) h, cell_of_row W g 2 _ _ (0, 0) h, by simp [World.frozen?, h], by simp [World.frozen?, h], by simp [World.frozen?, h], (Array.getElem?_eq_some_iff.1 h).1⟩

theorem step_sum (a st : Int) (k : Nat) : a + st * (k : Int) + st = a + st * ((k + 1 : Nat) : Int) := by
  rw [Int.natCast_add, Int.mul_add]; show _ = a + (st * (k : Int) + st * 1); omega

/-- What a round's end tells, as one value. -/
theorem yield_one {e : Ending} {A B : Prop} (h : (e = .returned (.bool true) ∧ A) ∨ (e = .returned (.bool false) ∧ B)) : ∃ b : Bool, e = .returned (.bool b) ∧ Hid ((b = true ∧ A) ∨ (b = false ∧ B)) := by
  rcases h with ⟨rfl, h⟩ | ⟨rfl, h⟩
  · exact ⟨true, rfl, Lib.hid (.inl ⟨rfl, h⟩)⟩
  · exact ⟨false, rfl, Lib.hid (.inr ⟨rfl, h⟩)⟩

/-- What the loop in dates knows at its head. -/
def HeadD (a st : Int) (G Bs : Nat) (J : List Dx → World → Prop) (v5 v6 : Value) (W : World) : Prop :=
  ∃ (pre : List Dx) (day : Int), v5 = .int .i64 day ∧ day = a + st * (pre.length : Int) ∧ RowD a st pre ∧ J pre W ∧ AhAt W ∧ W.cell? ⟨Bs, 0, none⟩ = some (.int .i64 st) ∧ -37243780 ≤ day ∧ day ≤ 35805089 ∧
    ((v6 = .int .i64 0 ∧ inR day ∧ ∃ y m d : Int, okD y m d ∧ dayN y m d = day ∧ W.heap[G]? = some (.cells #[.int .i64 y, .int .i64 m, .int .i64 d] 55 (0, 0))) ∨
     (v6 = .int .i64 10 ∧ ¬ inR day ∧ ∃ y m d : Int, W.heap[G]? = some (.cells #[.int .i64 y, .int .i64 m, .int .i64 d] 55 (0, 0))))

set_option maxHeartbeats 2000000 in
theorem dates_own (n : Nat) (hn : 1 ≤ n) (Bf Bs : Nat) (y m d st : Int) (w : World) (hok : okD y m d) (hst : st = 1 ∨ st = -1) (hA : AhAt w)
    (hf0 : w.cell? ⟨Bf, 0, none⟩ = some (.int .i64 y)) (hf1 : w.cell? ⟨Bf, 1, none⟩ = some (.int .i64 m)) (hf2 : w.cell? ⟨Bf, 2, none⟩ = some (.int .i64 d)) (hs : w.cell? ⟨Bs, 0, none⟩ = some (.int .i64 st)) :
    SeqOwn n Tryd.prog 48 #[.pointer (some ⟨Bf, 0, none⟩), .pointer (some ⟨Bs, 0, none⟩)] dxV (fun pre x => RowD (dayN y m d) st (pre ++ [x])) w.heap.size
      (fun xs => RowD (dayN y m d) st xs ∧ ¬ inR (dayN y m d + st * (xs.length : Int))) (RowD (dayN y m d) st) w := by
  intro l J Jx W hW hJ hJx hY h0
  refine callsIn_of_wp Tryd.func48 rfl trivial ?_ rfl
  simp only [Tryd.ntmps48, List.size_toArray, List.length_cons, List.length_nil, Nat.reduceAdd, Nat.reduceSub, Array.replicate_succ, Array.replicate_zero, List.push_toArray, List.append_toArray, List.nil_append, List.cons_append]
  have hB := cell_lt hf0
  have hS := cell_lt hs
  have g0 : W.cell? ⟨Bf, 0, none⟩ = some (.int .i64 y) := (hW.cell (p := ⟨_, _, none⟩) hB).trans hf0
  have g1 : W.cell? ⟨Bf, 1, none⟩ = some (.int .i64 m) := (hW.cell (p := ⟨_, _, none⟩) hB).trans hf1
  have g2 : W.cell? ⟨Bf, 2, none⟩ = some (.int .i64 d) := (hW.cell (p := ⟨_, _, none⟩) hB).trans hf2
  have AW := Lib.hid (hA.next hW)
  have SW := Lib.hid ((hW.cell (p := ⟨_, _, none⟩) hS).trans hs)
  have T0 := Lib.hid (Trp.new W y m d 55)
  have HW := Lib.hid hW
  have HJ := Lib.hid hJ
  have HY := Lib.hid hY
  have H0 := Lib.hid h0
  have HO := Lib.hid hok
  have hWs := hW.size
  have hAl := hA.lt
  obtain ⟨a, ha⟩ : ∃ a, dayN y m d = a := ⟨_, rfl⟩
  have hin : inR a := ha ▸ day_bd hok
  have hDY : Hid (∀ X, AhAt X → Calls Tryd.prog 32 #[.agg #[.int .i64 y, .int .i64 m, .int .i64 d]] X fun e w' => e = .returned (.tuple #[.int .i64 a, .int .i64 0]) ∧ Below X.heap.size X w') := Lib.hid fun X h => ha ▸ Days_yes y m d X h hok
  have HI := Lib.hid hin
  rw [ha] at HY ⊢
  have HA := Lib.hid ha
  clear hf0 hf1 hf2 hs hA hW hJ hJx hY h0 hok hin ha
  gi_wp2_with (refine ⟨trivial, ?_⟩; gi_at_call 32; refine (callsIn_wide.2 (hDY.out _ (AW.out.next T0.out.bel))).mono ?_; rintro e w1 ⟨rfl, k1⟩)
  have T1 := Lib.hid (T0.out.next k1)
  have A1 := Lib.hid ((AW.out.next T0.out.bel).next k1)
  clear k1 T0
  gi_loopw [5, 6] (fun v5 v6 wr => HeadD a st W.heap.size Bs J v5 v6 wr) (fun v5 _ _ => (if st = 1 then 35805100 - intOf v5 else intOf v5 + 37243800).toNat)
  case atStart => exact ⟨[], a, rfl, by simp, row_nil _ _, (HJ.out [] _ _ H0.out T1.out.bel), A1.out, (T1.out.bel.cell (p := ⟨_, _, none⟩) (by show Bs < _; omega)).trans SW.out, by have := HI.out; unfold inR at this; omega, by have := HI.out; unfold inR at this; omega, .inl ⟨rfl, HI.out, y, m, d, HO.out, HA.out, T1.out.blk⟩⟩
  case round =>
    obtain ⟨pre, day, rfl, hday, hrow, hj, ha, hs, hd1, hd2, hcase⟩ := hrel
    have HD := Lib.hid hday
    have HR := Lib.hid hrow
    have HJr := Lib.hid hj
    have AR := Lib.hid ha
    have SR := Lib.hid hs
    clear hday hrow hj ha hs T1 A1 SW AW H0 HO HA
    rcases hcase with ⟨rfl, hin, y1, m1, d1, hok, hdn, hblk⟩ | ⟨rfl, hout, y1, m1, d1, hblk⟩
    · have HI1 := Lib.hid hin
      have HB := Lib.hid hblk
      have c0 : wr.cell? ⟨W.heap.size, 0, none⟩ = some (.int .i64 y1) := cell_of_row wr W.heap.size 0 _ _ (0, 0) hblk
      have c1 : wr.cell? ⟨W.heap.size, 1, none⟩ = some (.int .i64 m1) := cell_of_row wr W.heap.size 1 _ _ (0, 0) hblk
      have c2 : wr.cell? ⟨W.heap.size, 2, none⟩ = some (.int .i64 d1) := cell_of_row wr W.heap.size 2 _ _ (0, 0) hblk
      have hlt := (Array.getElem?_eq_some_iff.1 hblk).1
      obtain ⟨x, hxv, hxd⟩ : ∃ x : Dx, dxV x = #[.agg #[.int .i64 y1, .int .i64 m1, .int .i64 d1], .int .i64 (wkD day)] ∧ dD x = day := ⟨⟨(y1, m1, d1), hok⟩, by rw [← hdn]; rfl, hdn⟩
      have RX := Lib.hid (row_snoc HR.out (hxd.trans HD.out))
      obtain ⟨fn, tmps, assign, body, hy, hR⟩ := HY.out pre x wr.drew (HJ.out _ _ _ HJr.out (Below.refl _ _).drew) RX.out (by show _ ≤ wr.heap.size; omega)
      rw [hxv] at hy
      have XD := Lib.hid hxd
      clear hin hblk hok hdn hxv hxd
      gi_wp2
      gi_region_with (first
        | (refine ⟨trivial, ?_⟩; gi_at_call 49; refine (callsIn_wide.2 (week_quiet day _ (by omega) (by omega))).mono ?_; rintro e w2 ⟨rfl, rfl⟩)
        | (refine hR.mono ?_; rintro e W3 hY3; obtain ⟨b, rfl, hb⟩ := yield_one hY3))
      all_goals
        rcases hb.out with ⟨rfl, hj3, kb3, ko3⟩ | ⟨rfl, hjx⟩
        · have blk3 : W3.heap[W.heap.size]? = some (.cells #[.int .i64 y1, .int .i64 m1, .int .i64 d1] 55 (0, 0)) := (ko3.same _ (Nat.le_refl _) hlt).trans HB.out
          have A3 := Lib.hid (AR.out.below (w := wr) (w' := W3) (B := w.heap.size) ((Below.refl _ _).drew.trans kb3) hAl)
          have S3 := Lib.hid ((((Below.refl w.heap.size wr).drew.trans kb3).cell (p := ⟨Bs, 0, none⟩) hS).trans SR.out)
          have J3 := Lib.hid hj3
          have sz3 : W.heap.size < W3.heap.size := (Array.getElem?_eq_some_iff.1 blk3).1
          have B3 := Lib.hid blk3
          have s0 := S3.out
          have hst2 : -1 ≤ st ∧ st ≤ 1 := by omega
          clear hb hY3 hj3 kb3 ko3 blk3 c0 c1 c2 hlt hy hR
          by_cases h2 : inR (day + st)
          · have H2 := Lib.hid h2
            have OF : Hid (∀ X, AhAt X → Calls Tryd.prog 50 #[.int .i64 (day + st)] X (SomeDate (day + st) X)) := Lib.hid fun X h => Of_yes _ X h h2.1 h2.2
            clear h2
            gi_wp2_with (first
              | (refine ⟨trivial, ?_⟩; gi_at_call 50; refine (callsIn_wide.2 (OF.out _ A3.out)).mono ?_; rintro e w4 ⟨y2, m2, d2, hok2, hdn2, rfl, k4⟩
                 have B4 := Lib.hid ((k4.block _ sz3).trans B3.out)
                 have O4 := Lib.hid (And.intro hok2 hdn2)
                 have K4 := Lib.hid k4
                 obtain ⟨e0, e1, e2, f0, f1, f2, l4⟩ := three_at B4.out
                 clear hok2 hdn2 k4))
            go_roundw
            case rel => exact ⟨pre ++ [x], day + st, rfl, by rw [HD.out, List.length_append, List.length_singleton]; exact step_sum _ _ _, RX.out, HJ.out _ _ _ J3.out ((K4.out.mono (by omega)).trans (below_three (Nat.le_refl _) _ _ _)), A3.out.below ((K4.out.mono (by omega)).trans (below_three hWs _ _ _)) hAl, (((K4.out.mono (by omega)).trans (below_three hWs _ _ _)).cell (p := ⟨Bs, 0, none⟩) hS).trans S3.out, by have := H2.out; unfold inR at this; omega, by have := H2.out; unfold inR at this; omega, .inl ⟨rfl, H2.out, y2, m2, d2, O4.out.1, O4.out.2, set_three B4.out⟩⟩
            case measure => rcases hst with rfl | rfl <;> simp [intOf] <;> omega
          · have H2 := Lib.hid h2
            have OF : Hid (∀ X, Calls Tryd.prog 50 #[.int .i64 (day + st)] X fun e w' => e = .returned (.tuple #[.agg #[.int .i64 0, .int .i64 0, .int .i64 0], .int .i64 10]) ∧ Below X.heap.size X w') := Lib.hid fun X => Of_no _ X (by unfold inR at h2; omega)
            clear h2
            gi_wp2_with (first
              | (refine ⟨trivial, ?_⟩; gi_at_call 50; refine (callsIn_wide.2 (OF.out _)).mono ?_; rintro e w4 ⟨rfl, k4⟩
                 have B4 := Lib.hid ((k4.block _ sz3).trans B3.out)
                 have K4 := Lib.hid k4
                 obtain ⟨e0, e1, e2, f0, f1, f2, l4⟩ := three_at B4.out
                 clear k4))
            go_roundw
            case rel => exact ⟨pre ++ [x], day + st, rfl, by rw [HD.out, List.length_append, List.length_singleton]; exact step_sum _ _ _, RX.out, HJ.out _ _ _ J3.out ((K4.out.mono (by omega)).trans (below_three (Nat.le_refl _) _ _ _)), A3.out.below ((K4.out.mono (by omega)).trans (below_three hWs _ _ _)) hAl, (((K4.out.mono (by omega)).trans (below_three hWs _ _ _)).cell (p := ⟨Bs, 0, none⟩) hS).trans S3.out, by have := HI1.out; unfold inR at this; omega, by have := HI1.out; unfold inR at this; omega, .inr ⟨rfl, H2.out, 0, 0, 0, set_three B4.out⟩⟩
            case measure => rcases hst with rfl | rfl <;> simp [intOf] <;> omega
        · clear hb hY3
          gi_wp2
          go_end0
          exact ⟨⟨_, rfl⟩, .inr ⟨pre ++ [x], RX.out, hjx⟩⟩
    · have HI1 := Lib.hid hout
      have HB := Lib.hid hblk
      clear hout hblk
      gi_wp2
      refine wpIn_region_quiet_lit rfl (by kernel_rfl) (by kernel_rfl) ?_
      repeat (first | gi_big_quiet_step (fail) | (refine BigFrame.wpQuietIn_skip (fun _ _ _ _ => trivial) rfl ?_; simp only [Act.put, List.setIfInBounds_toArray, List.set_cons_succ, List.set_cons_zero]))
      refine wpQuietIn_nil ?_
      rintro _ ⟨nq, rfl⟩
      gi_wp2
      go_end0
      exact ⟨⟨_, rfl⟩, .inl ⟨pre, ⟨HR.out, by rw [← HD.out]; exact HI1.out⟩, HJ.out _ _ _ HJr.out (drawn_below _ _ _)⟩⟩
end Go.Proofs.YtblamffdlclomaaDoor

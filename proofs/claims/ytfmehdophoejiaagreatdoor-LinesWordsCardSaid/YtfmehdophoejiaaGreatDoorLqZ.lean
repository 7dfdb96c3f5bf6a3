/- The contract of the reference's EraWords: which words an era has, or that it has none; nothing that was in memory changes. Written by wip/tools/gency.py. -/
import Derived.Test.YtfmehdophoejiaaGreatDoorLqV
import Derived.Test.YtfmehdophoejiaaGreatDoorLqF
import Derived.Test.YtfmehdophoejiaaGreatDoorLoB
import Derived.Deep.Cut
import Derived.Deep.RegionHeld3
import Derived.Maps.AppendAt
namespace Go.Proofs.YtfmehdophoejiaaGreatDoor
open Go Go.RowKit

theorem step_sapp {w : World} {ops : Array Oper} {o : Oper} {a : Act} {K : Act → World → Prop} {Q : Exit → Act → World → Prop} {E : Prop} (hgd : o.guard = none) (s x : Operand)
    (ho : o.op = .call { callee := .builtin .append, args := #[s, x], argTypes := #[27, 27] }) {base n k m c c2 : Nat} {A : Option Addr} {l ys : List (List UInt8)} (hk : ys.length = k) (hm : n + k = m) (X : w.ownsRow base 9 1 (.slice A n c) n (scl l))
    (hs : a.eval s = .slice A n c) (ad : Addr) (hx : a.eval x = .slice (some ad) k c2) (hb : ∀ j p, ys[j]? = some p → w.cell? (ad.add j) = some (.string ⟨p.toArray⟩)) (hl : m ≤ 100000) (hbase : base ≤ w.heap.size)
    (h : ∀ A' c' w', w'.ownsRow base 9 1 (.slice A' m c') m (scl (l ++ ys)) → Below base w w' → w.grownBy w' (Value.slice A n c).ownBlock → K (a.put o.dst (.slice A' m c')) w') :
    if Region.wanted o (yielded ops a.tmps) = true then Oper.wp Tryz.prog o a w K Q else E := by
  have hw : Region.wanted o (yielded ops a.tmps) = true := by simp [Region.wanted, hgd]
  rw [if_pos hw]
  obtain ⟨i0, hi0, hz0, hz1, hz2⟩ := info_parts string_info
  subst hk hm
  obtain ⟨v', w', hr, hown, hg, _, _⟩ := run_append_own_at (P := Tryz.prog) w base 27 o.type 9 i0 _ 1 16 Tryz.underlying27 hi0 hz0 hz1 hz2 rfl (by omega) (.slice A n c) n (scl l) X ad ys.length c2 (scl ys) (by simp [scl]) (by
      intro j u hu
      obtain ⟨p, hp, rfl⟩ : ∃ p, ys[j]? = some p ∧ Value.string ⟨p.toArray⟩ = u := by simpa [scl] using hu
      exact hb j p hp) (scl_one _) (by simp only [maxLen]; omega) (by omega) hbase
  unfold Oper.wp execOp
  simp only [ho, resolve, invoke, builtin, Sem.run_bind, Sem.run_pure, Result.andThen_ok, List.map_toArray, List.map_cons, List.map_nil, hs, hx, hr]
  obtain ⟨A', c', rfl⟩ := own_form hown
  rw [← scl_app] at hown
  exact h A' c' w' hown ((Below.refl base w).grown hg hbase (fun k hk => (X.lt k hk).1)) hg
theorem BlkN.nextG {w W W' : World} {g B : Nat} {C : Array Value} {t : TypeId} {row : Option Nat} (h : BlkN w g C t W) (k : Below B W W') (hB : w.heap.size ≤ B) (gr : W.grownBy W' row) (hne : some g ≠ row) : BlkN w g C t W' :=
  ⟨h.bel.trans (k.mono hB), h.ge, (gr.block g h.lt hne).trans h.blk⟩
theorem cells7 {W : World} {g : Nat} {t : TypeId} {v0 v1 v2 v3 v4 v5 v6 : Value} (h : W.heap[g]? = some (.cells #[v0, v1, v2, v3, v4, v5, v6] t (0, 0))) :
    W.cell? ⟨g, 0, none⟩ = some v0 ∧ W.cell? ⟨g, 1, none⟩ = some v1 ∧ W.cell? ⟨g, 2, none⟩ = some v2 ∧ W.cell? ⟨g, 3, none⟩ = some v3 ∧ W.cell? ⟨g, 4, none⟩ = some v4 ∧ W.cell? ⟨g, 5, none⟩ = some v5 ∧ W.cell? ⟨g, 6, none⟩ = some v6 :=
  ⟨cell_of_row W g 0 _ _ _ h, cell_of_row W g 1 _ _ _ h, cell_of_row W g 2 _ _ _ h, cell_of_row W g 3 _ _ _ h, cell_of_row W g 4 _ _ _ h, cell_of_row W g 5 _ _ _ h, cell_of_row W g 6 _ _ _ h⟩
set_option maxRecDepth 20000 in
set_option maxHeartbeats 51200000 in
theorem er_t (of sv uy um dk dw dn sc ck : Int) (rl fm : List UInt8) (w : World) (HLN : Hid (∀ p ∈ ewR ⟨of, rl, sv, fm, true, uy, um, dk, dw, dn, sc, ck⟩, p.length ≤ 100)) (r' : EV) (v : Int) (ok : Bool) (V : EwRT of sv uy um dk dw dn sc ck rl fm r' v ok) (HR : Hid (erS (ewR ⟨of, rl, sv, fm, true, uy, um, dk, dw, dn, sc, ck⟩) = r' ∧ erX (ewR ⟨of, rl, sv, fm, true, uy, um, dk, dw, dn, sc, ck⟩) = v)) :
    Calls Tryz.prog 31 #[evV ⟨of, rl, sv, fm, true, uy, um, dk, dw, dn, sc, ck⟩] w (WordsR (ewR ⟨of, rl, sv, fm, true, uy, um, dk, dw, dn, sc, ck⟩) ok w) := by
  obtain ⟨T0, h0⟩ : ∃ T, svT of = T := ⟨_, rfl⟩
  obtain ⟨T1, h1⟩ : ∃ T, ruRf rl sv = T := ⟨_, rfl⟩
  obtain ⟨Z, hz⟩ : ∃ T, svT sv = T := ⟨_, rfl⟩
  obtain ⟨D, hD⟩ : ∃ D, yrR uy = D := ⟨_, rfl⟩
  obtain ⟨T5, h5⟩ : ∃ T, mnameL um = T := ⟨_, rfl⟩
  obtain ⟨T6, h6⟩ : ∃ T, dyT dk dw dn = T := ⟨_, rfl⟩
  obtain ⟨T7, h7⟩ : ∃ T, ckT sc ck = T := ⟨_, rfl⟩
  have EW : ewR ⟨of, rl, sv, fm, true, uy, um, dk, dw, dn, sc, ck⟩ = [T0, T1, fm] ++ [D, T5, T6, T7] := by show [svT of, ruRf rl sv, fm] ++ [yrR uy, mnameL um, dyT dk dw dn, ckT sc ck] = _; rw [h0, h1, hD, h5, h6, h7]
  rw [EW] at HR HLN ⊢
  have H1 := Lib.hid h1
  have HZ := Lib.hid hz
  have C0 : Hid (∀ W, Calls Tryz.prog 79 #[.int .i64 of] W fun e w' => e = .returned (.string ⟨T0.toArray⟩) ∧ Below W.heap.size W w') := Lib.hid fun W => rspt_is of T0 W (Lib.hid h0)
  have CZ : Hid (∀ W, Calls Tryz.prog 79 #[.int .i64 sv] W fun e w' => e = .returned (.string ⟨Z.toArray⟩) ∧ Below W.heap.size W w') := Lib.hid fun W => rspt_is sv Z W (Lib.hid hz)
  have C2 : Hid (∀ W, Calls Tryz.prog 75 #[.int .i64 uy] W fun e w' => e = .returned (.string ⟨D.toArray⟩) ∧ Below W.heap.size W w') := Lib.hid fun W => ryear_is uy D W (Lib.hid hD)
  have C5 : Hid (∀ W, Calls Tryz.prog 76 #[.int .i64 um] W fun e w' => e = .returned (.string ⟨T5.toArray⟩) ∧ Below W.heap.size W w') := Lib.hid fun W => rmonth_is um T5 W (Lib.hid h5)
  have C6 : Hid (∀ W, Calls Tryz.prog 77 #[.agg #[.int .i64 dk, .int .i64 dw, .int .i64 dn]] W fun e w' => e = .returned (.string ⟨T6.toArray⟩) ∧ Below W.heap.size W w') := Lib.hid fun W => rday_is dk dw dn T6 W (Lib.hid h6)
  have C7 : Hid (∀ W, Calls Tryz.prog 78 #[.agg #[.int .i64 sc, .int .i64 ck]] W fun e w' => e = .returned (.string ⟨T7.toArray⟩) ∧ Below W.heap.size W w') := Lib.hid fun W => rclock_is sc ck T7 W (Lib.hid h7)
  clear h0 h1 hz EW hD h5 h6 h7
  simp only [evV]
  have B := Lib.hid (BlkN.make (Below.refl _ w) #[.int .i64 of, .string ⟨rl.toArray⟩, .int .i64 sv, .string ⟨fm.toArray⟩, .bool true, .int .i64 uy, .int .i64 um, .int .i64 dk, .int .i64 dw, .int .i64 dn, .int .i64 sc, .int .i64 ck] 40)
  go_enter Tryz.func31, Tryz.ntmps31
  go_upto_if 12 with fail
  go_cut [4] from 9 (fun t wx => t = .string ⟨T1.toArray⟩ ∧ BlkN w w.heap.size #[.int .i64 of, .string ⟨rl.toArray⟩, .int .i64 sv, .string ⟨fm.toArray⟩, .bool true, .int .i64 uy, .int .i64 um, .int .i64 dk, .int .i64 dw, .int .i64 dn, .int .i64 sc, .int .i64 ck] 40 wx)
  case first =>
    by_cases c : rl = []
    · have c1 : rl.isEmpty = true := by rw [c]; rfl
      by_cases z : sv = 0
      · have z1 : (sv == 0) = true := by simpa using z
        have e : [45] = T1 := by rw [← H1.out]; unfold ruRf; rw [if_pos c, if_pos z]
        clear c z
        rw [c1]
        go_wp2_with (go_at_call 79
                     refine (CZ.out _).mono ?_
                     rintro e w1 ⟨rfl, k1⟩
                     have X := Lib.hid (B.out.next k1)
                     obtain ⟨xa0, xa1, xa2, xa3, xa4, xa5, xa6, xa7, xa8, xa9, xa10, xa11⟩ := cells12 X.out.blk
                     have xaq := X.out.lt
                     clear k1
                     simp only [])
        go_meet
        case rel => exact ⟨by rw [← e], X.out⟩
      · have z1 : (sv == 0) = false := by simpa using z
        have e : Z = T1 := by rw [← H1.out, ← HZ.out]; unfold ruRf; rw [if_pos c, if_neg z]
        clear c z
        rw [c1]
        go_wp2_with (go_at_call 79
                     refine (CZ.out _).mono ?_
                     rintro e w1 ⟨rfl, k1⟩
                     have X := Lib.hid (B.out.next k1)
                     obtain ⟨xa0, xa1, xa2, xa3, xa4, xa5, xa6, xa7, xa8, xa9, xa10, xa11⟩ := cells12 X.out.blk
                     have xaq := X.out.lt
                     clear k1
                     simp only [])
        go_meet
        case rel => exact ⟨by rw [← e], X.out⟩
    · have c1 : rl.isEmpty = false := by cases rl <;> simp_all
      have e : rl = T1 := by rw [← H1.out]; unfold ruRf; rw [if_neg c]
      clear c
      rw [c1]
      go_wp2
      go_meet
      case rel => exact ⟨by rw [← e], B.out⟩
  case rest =>
  obtain ⟨rfl, X0⟩ := hcut
  have X := Lib.hid X0
  clear X0 B H1 HZ CZ
  obtain ⟨xa0, xa1, xa2, xa3, xa4, xa5, xa6, xa7, xa8, xa9, xa10, xa11⟩ := cells12 X.out.blk
  have xaq := X.out.lt
  go_upto_region 6 with fail
  have SD : wc.drew.cell? ⟨w.heap.size, 0, none⟩ = some (.int .i64 of) ∧ wc.drew.cell? ⟨w.heap.size, 1, none⟩ = some (.string ⟨rl.toArray⟩) ∧ wc.drew.cell? ⟨w.heap.size, 2, none⟩ = some (.int .i64 sv) ∧ wc.drew.cell? ⟨w.heap.size, 3, none⟩ = some (.string ⟨fm.toArray⟩) ∧ wc.drew.cell? ⟨w.heap.size, 4, none⟩ = some (.bool true) ∧ wc.drew.cell? ⟨w.heap.size, 5, none⟩ = some (.int .i64 uy) ∧ wc.drew.cell? ⟨w.heap.size, 6, none⟩ = some (.int .i64 um) ∧ wc.drew.cell? ⟨w.heap.size, 7, none⟩ = some (.int .i64 dk) ∧ wc.drew.cell? ⟨w.heap.size, 8, none⟩ = some (.int .i64 dw) ∧ wc.drew.cell? ⟨w.heap.size, 9, none⟩ = some (.int .i64 dn) ∧ wc.drew.cell? ⟨w.heap.size, 10, none⟩ = some (.int .i64 sc) ∧ wc.drew.cell? ⟨w.heap.size, 11, none⟩ = some (.int .i64 ck) := cells12 X.out.drew.blk
  go_region_held3 (fun w' => w'.cell? ⟨w.heap.size, 0, none⟩ = some (.int .i64 of) ∧ w'.cell? ⟨w.heap.size, 1, none⟩ = some (.string ⟨rl.toArray⟩) ∧ w'.cell? ⟨w.heap.size, 2, none⟩ = some (.int .i64 sv) ∧ w'.cell? ⟨w.heap.size, 3, none⟩ = some (.string ⟨fm.toArray⟩) ∧ w'.cell? ⟨w.heap.size, 4, none⟩ = some (.bool true) ∧ w'.cell? ⟨w.heap.size, 5, none⟩ = some (.int .i64 uy) ∧ w'.cell? ⟨w.heap.size, 6, none⟩ = some (.int .i64 um) ∧ w'.cell? ⟨w.heap.size, 7, none⟩ = some (.int .i64 dk) ∧ w'.cell? ⟨w.heap.size, 8, none⟩ = some (.int .i64 dw) ∧ w'.cell? ⟨w.heap.size, 9, none⟩ = some (.int .i64 dn) ∧ w'.cell? ⟨w.heap.size, 10, none⟩ = some (.int .i64 sc) ∧ w'.cell? ⟨w.heap.size, 11, none⟩ = some (.int .i64 ck)) (first | exact SD | exact cells12 X.out.blk | go_keep | exact cells12 (X.out.drew.next k2).blk) (first
    | (go_at_call 79; refine (C0.out _).mono ?_; rintro e w2 ⟨rfl, k2⟩; simp only []))
  have X2 := Lib.hid ((X.out.drew.next k2).more (.cells #[.string ⟨T0.toArray⟩, .string ⟨T1.toArray⟩, .string ⟨fm.toArray⟩] 9))
  have OW := Lib.hid (own_lit3 w2 T0 T1 fm w2.heap.size (Nat.le_refl _))
  have XQ : Hid (w.heap.size < w2.heap.size) := Lib.hid (X.out.drew.next k2).lt
  obtain ⟨xb0, xb1, xb2, xb3, xb4, xb5, xb6, xb7, xb8, xb9, xb10, xb11⟩ := cells12 (X.out.drew.next k2).blk
  have xbq := XQ.out
  clear SD xa0 xa1 xa2 xa3 xa4 xa5 xa6 xa7 xa8 xa9 xa10 xa11 xaq
  have U : Hid (BlkN w (w2.heap.size + 1) #[.int .i64 uy, .int .i64 um, .int .i64 dk, .int .i64 dw, .int .i64 dn, .int .i64 sc, .int .i64 ck] 38 ((w2.alloc (.cells #[.string ⟨T0.toArray⟩, .string ⟨T1.toArray⟩, .string ⟨fm.toArray⟩] 9)).alloc (.cells #[.int .i64 uy, .int .i64 um, .int .i64 dk, .int .i64 dw, .int .i64 dn, .int .i64 sc, .int .i64 ck] 38))) := Lib.hid (by have h := BlkN.make X2.out.bel #[.int .i64 uy, .int .i64 um, .int .i64 dk, .int .i64 dw, .int .i64 dn, .int .i64 sc, .int .i64 ck] 38; rwa [World.size_alloc] at h)
  go_upto_region 9 with fail
  have SD : ((w2.alloc (.cells #[.string ⟨T0.toArray⟩, .string ⟨T1.toArray⟩, .string ⟨fm.toArray⟩] 9)).alloc (.cells #[.int .i64 uy, .int .i64 um, .int .i64 dk, .int .i64 dw, .int .i64 dn, .int .i64 sc, .int .i64 ck] 38)).drew.cell? ⟨w2.heap.size + 1, 0, none⟩ = some (.int .i64 uy) ∧ ((w2.alloc (.cells #[.string ⟨T0.toArray⟩, .string ⟨T1.toArray⟩, .string ⟨fm.toArray⟩] 9)).alloc (.cells #[.int .i64 uy, .int .i64 um, .int .i64 dk, .int .i64 dw, .int .i64 dn, .int .i64 sc, .int .i64 ck] 38)).drew.cell? ⟨w2.heap.size + 1, 1, none⟩ = some (.int .i64 um) ∧ ((w2.alloc (.cells #[.string ⟨T0.toArray⟩, .string ⟨T1.toArray⟩, .string ⟨fm.toArray⟩] 9)).alloc (.cells #[.int .i64 uy, .int .i64 um, .int .i64 dk, .int .i64 dw, .int .i64 dn, .int .i64 sc, .int .i64 ck] 38)).drew.cell? ⟨w2.heap.size + 1, 2, none⟩ = some (.int .i64 dk) ∧ ((w2.alloc (.cells #[.string ⟨T0.toArray⟩, .string ⟨T1.toArray⟩, .string ⟨fm.toArray⟩] 9)).alloc (.cells #[.int .i64 uy, .int .i64 um, .int .i64 dk, .int .i64 dw, .int .i64 dn, .int .i64 sc, .int .i64 ck] 38)).drew.cell? ⟨w2.heap.size + 1, 3, none⟩ = some (.int .i64 dw) ∧ ((w2.alloc (.cells #[.string ⟨T0.toArray⟩, .string ⟨T1.toArray⟩, .string ⟨fm.toArray⟩] 9)).alloc (.cells #[.int .i64 uy, .int .i64 um, .int .i64 dk, .int .i64 dw, .int .i64 dn, .int .i64 sc, .int .i64 ck] 38)).drew.cell? ⟨w2.heap.size + 1, 4, none⟩ = some (.int .i64 dn) ∧ ((w2.alloc (.cells #[.string ⟨T0.toArray⟩, .string ⟨T1.toArray⟩, .string ⟨fm.toArray⟩] 9)).alloc (.cells #[.int .i64 uy, .int .i64 um, .int .i64 dk, .int .i64 dw, .int .i64 dn, .int .i64 sc, .int .i64 ck] 38)).drew.cell? ⟨w2.heap.size + 1, 5, none⟩ = some (.int .i64 sc) ∧ ((w2.alloc (.cells #[.string ⟨T0.toArray⟩, .string ⟨T1.toArray⟩, .string ⟨fm.toArray⟩] 9)).alloc (.cells #[.int .i64 uy, .int .i64 um, .int .i64 dk, .int .i64 dw, .int .i64 dn, .int .i64 sc, .int .i64 ck] 38)).drew.cell? ⟨w2.heap.size + 1, 6, none⟩ = some (.int .i64 ck) := cells7 U.out.drew.blk
  have BQ : Hid (w2.heap.size ≤ w2.heap.size + 1 + 1) := Lib.hid (by omega)
  go_region_held3 (fun w' => w'.cell? ⟨w2.heap.size + 1, 0, none⟩ = some (.int .i64 uy) ∧ w'.cell? ⟨w2.heap.size + 1, 1, none⟩ = some (.int .i64 um) ∧ w'.cell? ⟨w2.heap.size + 1, 2, none⟩ = some (.int .i64 dk) ∧ w'.cell? ⟨w2.heap.size + 1, 3, none⟩ = some (.int .i64 dw) ∧ w'.cell? ⟨w2.heap.size + 1, 4, none⟩ = some (.int .i64 dn) ∧ w'.cell? ⟨w2.heap.size + 1, 5, none⟩ = some (.int .i64 sc) ∧ w'.cell? ⟨w2.heap.size + 1, 6, none⟩ = some (.int .i64 ck)) (first | exact SD | exact cells7 U.out.blk | go_keep | exact cells7 (U.out.drew.next k3).blk | exact cells7 ((U.out.drew.next k3).next k4).blk | exact cells7 (((U.out.drew.next k3).next k4).next k5).blk | exact cells7 ((((U.out.drew.next k3).next k4).next k5).next k6).blk | exact cells7 (((((U.out.drew.next k3).next k4).next k5).next k6).more _).blk | exact cells7 U7.out.blk) (first
    | (go_at_call 75; refine (C2.out _).mono ?_; rintro e w3 ⟨rfl, k3⟩; simp only [])
    | (go_at_call 76; refine (C5.out _).mono ?_; rintro e w4 ⟨rfl, k4⟩; simp only [])
    | (go_at_call 77; refine (C6.out _).mono ?_; rintro e w5 ⟨rfl, k5⟩; simp only [])
    | (go_at_call 78; refine (C7.out _).mono ?_; rintro e w6 ⟨rfl, k6⟩; simp only [])
    | (refine step_sapp rfl (.tmp 30) (.tmp 43) rfl (base := w2.heap.size) (n := 3) (k := 4) (m := 7) (l := [T0, T1, fm]) (ys := [D, T5, T6, T7]) rfl rfl ((own_next (own_next (own_next (own_next (OW.out.alloc _).drew k3) k4) k5) k6).alloc _) rfl ⟨w6.heap.size, 0, none⟩ rfl ?_ (by omega) (Nat.le_trans (Nat.le_trans (Nat.le_trans (Nat.le_trans (Nat.le_trans (by simp <;> omega) k3.size) k4.size) k5.size) k6.size) (by simp)) ?_
       · intro j p hp
         rw [show (⟨w6.heap.size, 0, none⟩ : Addr).add j = ⟨w6.heap.size, 0 + j, none⟩ from Go.WideShapes.add_plain _ _ _, Nat.zero_add]
         exact (ListAt.newE w6 [D, T5, T6, T7] _ _ _ rfl rfl).cell j p hp
       intro A7 c7 w7 own7 b7 g7
       have X7 := Lib.hid (((((((X2.out.more _).drew.next k3).next k4).next k5).next k6).more _).nextB b7 XQ.out (by have := XQ.out; omega) (Nat.le_trans (Nat.le_trans (Nat.le_trans (Nat.le_trans (Nat.le_trans (by simp <;> omega) k3.size) k4.size) k5.size) k6.size) (by simp)))
       have U7 := Lib.hid ((((((U.out.drew.next k3).next k4).next k5).next k6).more _).nextG b7 (by have := XQ.out; omega) g7 (by simp [Value.ownBlock]))
       have OA := Lib.hid own7
       clear own7 b7 g7))
  clear SD k2 k3 k4 k5 k6 xb0 xb1 xb2 xb3 xb4 xb5 xb6 xb7 xb8 xb9 xb10 xb11 xbq X X2 OW U U7
  rcases V with ⟨hv, rfl⟩ | ⟨sv', hr, rfl, rfl, rfl⟩ | ⟨hr, rfl, rfl, rfl⟩ | ⟨rfl, rfl, rfl⟩
  all_goals
    go_wp2_with (go_at_call 22
                 refine (reraq_is A7 7 c7 ([T0, T1, fm] ++ [D, T5, T6, T7]) _ (own_arg OA.out).1 (.inr rfl) HLN.out (own_arg OA.out).2.2 _ _ HR).mono ?_
                 rintro e wa ⟨rfl, ka⟩
                 have AR : Hid (ArgW A7 ([T0, T1, fm] ++ [D, T5, T6, T7]) wa) := Lib.hid ((own_arg OA.out).2.2.next ka)
                 have XA := Lib.hid (X7.out.next ka)
                 clear ka X7 OA
                 obtain ⟨xf0, xf1, xf2, xf3, xf4, xf5, xf6, xf7, xf8, xf9, xf10, xf11⟩ := cells12 XA.out.blk
                 have xfq := XA.out.lt
                 simp only [evV])
    go_ret2
    first | exact .inr ⟨rfl, rfl, (XA.out.more _).bel⟩ | exact .inl ⟨rfl, _, _, rfl, AR.out.next ((Below.refl _ _).alloc (Nat.le_refl _) _), (XA.out.more _).bel⟩
set_option maxRecDepth 20000 in
set_option maxHeartbeats 51200000 in
theorem er_f (of sv uy um dk dw dn sc ck : Int) (rl fm : List UInt8) (w : World) (HLN : Hid (∀ p ∈ ewR ⟨of, rl, sv, fm, false, uy, um, dk, dw, dn, sc, ck⟩, p.length ≤ 100)) (r' : EV) (v : Int) (ok : Bool) (V : EwRF of sv uy um dk dw dn sc ck rl fm r' v ok) (HR : Hid (erS (ewR ⟨of, rl, sv, fm, false, uy, um, dk, dw, dn, sc, ck⟩) = r' ∧ erX (ewR ⟨of, rl, sv, fm, false, uy, um, dk, dw, dn, sc, ck⟩) = v)) :
    Calls Tryz.prog 31 #[evV ⟨of, rl, sv, fm, false, uy, um, dk, dw, dn, sc, ck⟩] w (WordsR (ewR ⟨of, rl, sv, fm, false, uy, um, dk, dw, dn, sc, ck⟩) ok w) := by
  obtain ⟨T0, h0⟩ : ∃ T, svT of = T := ⟨_, rfl⟩
  obtain ⟨T1, h1⟩ : ∃ T, ruRf rl sv = T := ⟨_, rfl⟩
  obtain ⟨Z, hz⟩ : ∃ T, svT sv = T := ⟨_, rfl⟩
  have EW : ewR ⟨of, rl, sv, fm, false, uy, um, dk, dw, dn, sc, ck⟩ = [T0, T1, fm] := by show [svT of, ruRf rl sv, fm] = _; rw [h0, h1]
  rw [EW] at HR HLN ⊢
  have H1 := Lib.hid h1
  have HZ := Lib.hid hz
  have C0 : Hid (∀ W, Calls Tryz.prog 79 #[.int .i64 of] W fun e w' => e = .returned (.string ⟨T0.toArray⟩) ∧ Below W.heap.size W w') := Lib.hid fun W => rspt_is of T0 W (Lib.hid h0)
  have CZ : Hid (∀ W, Calls Tryz.prog 79 #[.int .i64 sv] W fun e w' => e = .returned (.string ⟨Z.toArray⟩) ∧ Below W.heap.size W w') := Lib.hid fun W => rspt_is sv Z W (Lib.hid hz)
  clear h0 h1 hz EW
  simp only [evV]
  have B := Lib.hid (BlkN.make (Below.refl _ w) #[.int .i64 of, .string ⟨rl.toArray⟩, .int .i64 sv, .string ⟨fm.toArray⟩, .bool false, .int .i64 uy, .int .i64 um, .int .i64 dk, .int .i64 dw, .int .i64 dn, .int .i64 sc, .int .i64 ck] 40)
  go_enter Tryz.func31, Tryz.ntmps31
  go_upto_if 12 with fail
  go_cut [4] from 9 (fun t wx => t = .string ⟨T1.toArray⟩ ∧ BlkN w w.heap.size #[.int .i64 of, .string ⟨rl.toArray⟩, .int .i64 sv, .string ⟨fm.toArray⟩, .bool false, .int .i64 uy, .int .i64 um, .int .i64 dk, .int .i64 dw, .int .i64 dn, .int .i64 sc, .int .i64 ck] 40 wx)
  case first =>
    by_cases c : rl = []
    · have c1 : rl.isEmpty = true := by rw [c]; rfl
      by_cases z : sv = 0
      · have z1 : (sv == 0) = true := by simpa using z
        have e : [45] = T1 := by rw [← H1.out]; unfold ruRf; rw [if_pos c, if_pos z]
        clear c z
        rw [c1]
        go_wp2_with (go_at_call 79
                     refine (CZ.out _).mono ?_
                     rintro e w1 ⟨rfl, k1⟩
                     have X := Lib.hid (B.out.next k1)
                     obtain ⟨xa0, xa1, xa2, xa3, xa4, xa5, xa6, xa7, xa8, xa9, xa10, xa11⟩ := cells12 X.out.blk
                     have xaq := X.out.lt
                     clear k1
                     simp only [])
        go_meet
        case rel => exact ⟨by rw [← e], X.out⟩
      · have z1 : (sv == 0) = false := by simpa using z
        have e : Z = T1 := by rw [← H1.out, ← HZ.out]; unfold ruRf; rw [if_pos c, if_neg z]
        clear c z
        rw [c1]
        go_wp2_with (go_at_call 79
                     refine (CZ.out _).mono ?_
                     rintro e w1 ⟨rfl, k1⟩
                     have X := Lib.hid (B.out.next k1)
                     obtain ⟨xa0, xa1, xa2, xa3, xa4, xa5, xa6, xa7, xa8, xa9, xa10, xa11⟩ := cells12 X.out.blk
                     have xaq := X.out.lt
                     clear k1
                     simp only [])
        go_meet
        case rel => exact ⟨by rw [← e], X.out⟩
    · have c1 : rl.isEmpty = false := by cases rl <;> simp_all
      have e : rl = T1 := by rw [← H1.out]; unfold ruRf; rw [if_neg c]
      clear c
      rw [c1]
      go_wp2
      go_meet
      case rel => exact ⟨by rw [← e], B.out⟩
  case rest =>
  obtain ⟨rfl, X0⟩ := hcut
  have X := Lib.hid X0
  clear X0 B H1 HZ CZ
  obtain ⟨xa0, xa1, xa2, xa3, xa4, xa5, xa6, xa7, xa8, xa9, xa10, xa11⟩ := cells12 X.out.blk
  have xaq := X.out.lt
  go_upto_region 6 with fail
  have SD : wc.drew.cell? ⟨w.heap.size, 0, none⟩ = some (.int .i64 of) ∧ wc.drew.cell? ⟨w.heap.size, 1, none⟩ = some (.string ⟨rl.toArray⟩) ∧ wc.drew.cell? ⟨w.heap.size, 2, none⟩ = some (.int .i64 sv) ∧ wc.drew.cell? ⟨w.heap.size, 3, none⟩ = some (.string ⟨fm.toArray⟩) ∧ wc.drew.cell? ⟨w.heap.size, 4, none⟩ = some (.bool false) ∧ wc.drew.cell? ⟨w.heap.size, 5, none⟩ = some (.int .i64 uy) ∧ wc.drew.cell? ⟨w.heap.size, 6, none⟩ = some (.int .i64 um) ∧ wc.drew.cell? ⟨w.heap.size, 7, none⟩ = some (.int .i64 dk) ∧ wc.drew.cell? ⟨w.heap.size, 8, none⟩ = some (.int .i64 dw) ∧ wc.drew.cell? ⟨w.heap.size, 9, none⟩ = some (.int .i64 dn) ∧ wc.drew.cell? ⟨w.heap.size, 10, none⟩ = some (.int .i64 sc) ∧ wc.drew.cell? ⟨w.heap.size, 11, none⟩ = some (.int .i64 ck) := cells12 X.out.drew.blk
  go_region_held3 (fun w' => w'.cell? ⟨w.heap.size, 0, none⟩ = some (.int .i64 of) ∧ w'.cell? ⟨w.heap.size, 1, none⟩ = some (.string ⟨rl.toArray⟩) ∧ w'.cell? ⟨w.heap.size, 2, none⟩ = some (.int .i64 sv) ∧ w'.cell? ⟨w.heap.size, 3, none⟩ = some (.string ⟨fm.toArray⟩) ∧ w'.cell? ⟨w.heap.size, 4, none⟩ = some (.bool false) ∧ w'.cell? ⟨w.heap.size, 5, none⟩ = some (.int .i64 uy) ∧ w'.cell? ⟨w.heap.size, 6, none⟩ = some (.int .i64 um) ∧ w'.cell? ⟨w.heap.size, 7, none⟩ = some (.int .i64 dk) ∧ w'.cell? ⟨w.heap.size, 8, none⟩ = some (.int .i64 dw) ∧ w'.cell? ⟨w.heap.size, 9, none⟩ = some (.int .i64 dn) ∧ w'.cell? ⟨w.heap.size, 10, none⟩ = some (.int .i64 sc) ∧ w'.cell? ⟨w.heap.size, 11, none⟩ = some (.int .i64 ck)) (first | exact SD | exact cells12 X.out.blk | go_keep | exact cells12 (X.out.drew.next k2).blk) (first
    | (go_at_call 79; refine (C0.out _).mono ?_; rintro e w2 ⟨rfl, k2⟩; simp only []))
  have X2 := Lib.hid ((X.out.drew.next k2).more (.cells #[.string ⟨T0.toArray⟩, .string ⟨T1.toArray⟩, .string ⟨fm.toArray⟩] 9))
  have OW := Lib.hid (own_lit3 w2 T0 T1 fm w2.heap.size (Nat.le_refl _))
  have XQ : Hid (w.heap.size < w2.heap.size) := Lib.hid (X.out.drew.next k2).lt
  obtain ⟨xb0, xb1, xb2, xb3, xb4, xb5, xb6, xb7, xb8, xb9, xb10, xb11⟩ := cells12 (X.out.drew.next k2).blk
  have xbq := XQ.out
  clear SD xa0 xa1 xa2 xa3 xa4 xa5 xa6 xa7 xa8 xa9 xa10 xa11 xaq
  rcases V with ⟨hv, rfl⟩ | ⟨sv', hr, rfl, rfl, rfl⟩ | ⟨hr, rfl, rfl, rfl⟩ | ⟨rfl, rfl, ⟨hd, rfl⟩ | ⟨rfl, ⟨hd, rfl⟩ | ⟨rfl, ⟨hd, rfl⟩ | ⟨rfl, ⟨hd, rfl⟩ | ⟨rfl, ⟨hd, rfl⟩ | ⟨rfl, ⟨hd, rfl⟩ | ⟨rfl, ⟨hd, rfl⟩ | ⟨rfl, rfl⟩⟩⟩⟩⟩⟩⟩⟩
  all_goals
    go_wp2_with (go_at_call 22
                 refine (reraq_is _ 3 3 ([T0, T1, fm]) _ (own_arg OW.out).1 (.inl rfl) HLN.out (own_arg OW.out).2.2 _ _ HR).mono ?_
                 rintro e wa ⟨rfl, ka⟩
                 have AR : Hid (ArgW (some ⟨w2.heap.size, 0, none⟩) [T0, T1, fm] wa) := Lib.hid ((own_arg OW.out).2.2.next ka)
                 have XA := Lib.hid (X2.out.next ka)
                 clear ka X2 OW xb0 xb1 xb2 xb3 xb4 xb5 xb6 xb7 xb8 xb9 xb10 xb11 xbq
                 obtain ⟨xf0, xf1, xf2, xf3, xf4, xf5, xf6, xf7, xf8, xf9, xf10, xf11⟩ := cells12 XA.out.blk
                 have xfq := XA.out.lt
                 simp only [evV])
    go_ret2
    first | exact .inr ⟨rfl, rfl, (XA.out.more _).bel⟩ | exact .inl ⟨rfl, _, _, rfl, AR.out.next ((Below.refl _ _).alloc (Nat.le_refl _) _), (XA.out.more _).bel⟩
/-- EraWords of the reference. -/
theorem rewords_is (x : EV) (w : World) (h1 : x.rl.length ≤ 80) (h2 : x.fm.length ≤ 80) :
    Calls Tryz.prog 31 #[evV x] w (WordsR (ewR x) (ewB x) w) := by
  have HLN := Lib.hid (ewR_lens x h1 h2)
  cases hen : x.en with
  | true =>
    have V := era_RT hen
    obtain ⟨of, rl, sv, fm, en, uy, um, dk, dw, dn, sc, ck⟩ := x
    simp only at hen
    subst hen
    exact er_t of sv uy um dk dw dn sc ck rl fm w HLN _ _ _ V (Lib.hid ⟨rfl, rfl⟩)
  | false =>
    have V := era_RF hen
    obtain ⟨of, rl, sv, fm, en, uy, um, dk, dw, dn, sc, ck⟩ := x
    simp only at hen
    subst hen
    exact er_f of sv uy um dk dw dn sc ck rl fm w HLN _ _ _ V (Lib.hid ⟨rfl, rfl⟩)
end Go.Proofs.YtfmehdophoejiaaGreatDoor

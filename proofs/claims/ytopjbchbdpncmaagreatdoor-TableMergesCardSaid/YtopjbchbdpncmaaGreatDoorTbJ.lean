/- The law TableMerges: what is left of changes if those that change nothing are left away; this done twice is done once; it shows the same throughout. -/
import Derived.Test.YtopjbchbdpncmaaGreatDoorTbG
import Derived.Test.YtopjbchbdpncmaaGreatDoorMYI
namespace Go.Proofs.YtopjbchbdpncmaaGreatDoor
open Go Go.RowKit Go.Shelf
attribute [local go_sem] Oper.semAt_some

theorem atC_lo {o q : Option CV} (h : o.map loC = q.map loC) : atC o = atC q := by
  cases o <;> cases q
  · rfl
  · cases h
  · cases h
  · rename_i x y
    have h1 : loC x = loC y := by simpa using h
    unfold loC at h1
    injection h1 with h1 h2
    injection h2 with h2 h3
    show Value.tuple _ = Value.tuple _
    rw [h1, h2, h3]
theorem mrg_at {l : List CV} {i : Nat} {x : CV} (hx : l[i]? = some x) (h : endC none (l.take i) ≠ some (loC x)) : (mrgC none l)[(mrgC none (l.take i)).length]? = some x ∧ (mrgC none (l.take (i + 1))).length = (mrgC none (l.take i)).length + 1 := by
  have e := cmr_take hx
  rw [if_neg h] at e
  have p := cmr_pre l (i + 1)
  rw [e] at p
  obtain ⟨T, hT⟩ := p
  constructor
  · rw [← hT, List.append_assoc, List.getElem?_append_right (Nat.le_refl _), Nat.sub_self]; rfl
  · rw [e, List.length_append]; rfl
theorem mrg_no {l : List CV} {i : Nat} {x : CV} (hx : l[i]? = some x) (h : endC none (l.take i) = some (loC x)) : (mrgC none (l.take (i + 1))).length = (mrgC none (l.take i)).length := by
  rw [cmr_take hx, if_pos h, List.append_nil]
set_option maxRecDepth 20000 in
set_option maxHeartbeats 4000000 in
theorem tableMerges_is (A : Option Addr) (n c : Nat) (l : List CV) (t : Int) (w : World) (hZ : LaidZ w) (hA : RowsAt 4 cC A l w) (hn : l.length = n) :
    Calls Tryz.prog 7 #[.slice A n c, .int .i64 t] w fun x w' => x = .returned (.bool true) ∧ Below w.heap.size w w' := by
  have mixed : Tryz.prog.follows .mixedOrders = true := by kernel_rfl
  have AW := Lib.hid (fun W (k : Below w.heap.size w W) => tawake_is W (hZ.next k))
  have AA := Lib.hid hA
  have HN := Lib.hid hn
  have K0 := Lib.hid (Below.refl w.heap.size w)
  clear hA hn hZ
  by_cases hz : (n : Int) > 60
  · go_enter Tryz.func7, Tryz.ntmps7
    repeat (first
      | (go_at_call 25; refine (AW.out _ K0.out).mono ?_; rintro x w2 ⟨rfl, k2⟩; simp only [])
      | go_values | go_skip | go_guarded | go_step | go_upon | go_back)
    go_ret
    exact ⟨rfl, k2⟩
  have MG0 := fun W (k : Below w.heap.size w W) => tmerge_is A n c l W (AA.out.next k) HN.out (by omega)
  by_cases hr : RisC l
  · have RI := Lib.hid (fun W (k : Below w.heap.size w W) => rise_is A n c l true W (AA.out.next k) HN.out (by omega) (decide_eq_true hr).symm)
    have hm : (mrgC none l).length ≤ 60 := by have := cmr_len l; have := HN.out; omega
    have MG : Hid (∀ W, Below w.heap.size w W → Calls Tryz.prog 37 #[.slice A n c] W fun e w' => ∃ A c, e = .returned (.tuple #[.slice A (mrgC none l).length c, .int .i64 0]) ∧ RowsAt 4 cC A (mrgC none l) w' ∧ Below W.heap.size W w') := Lib.hid fun W k => (MG0 W k).mono (by
      rintro e w' (⟨h, -⟩ | ⟨-, h⟩)
      · exact absurd hr h
      · exact h)
    have MM : Hid (∀ B p W, RowsAt 4 cC B (mrgC none l) W → Calls Tryz.prog 37 #[.slice B (mrgC none l).length p] W fun e w' => ∃ A c, e = .returned (.tuple #[.slice A (mrgC none l).length c, .int .i64 0]) ∧ RowsAt 4 cC A (mrgC none l) w' ∧ Below W.heap.size W w') := Lib.hid fun B p W h => (tmerge_is B _ p (mrgC none l) W h rfl (by omega)).mono (by
      rintro e w' (⟨h, -⟩ | ⟨-, h⟩)
      · exact absurd (cmr_ris hr none) h
      · rw [cmr_mrg] at h; exact h)
    have SM := Lib.hid (fun A B (p q : Nat) W (h1 : RowsAt 4 cC A (mrgC none l) W) (h2 : RowsAt 4 cC B (mrgC none l) W) => tsame_is A B _ _ p q _ _ true W h1 h2 rfl rfl (by omega) (by omega) (by simp))
    have AT := Lib.hid (fun W (k : Below w.heap.size w W) => tat_is A n c l t W (AA.out.next k) HN.out (by omega))
    have AM := Lib.hid (fun (B : Option Addr) (p : Nat) W (h : RowsAt 4 cC B (mrgC none l) W) => tat_is B _ p (mrgC none l) t W h rfl (by omega))
    have AE := atC_lo (cmr_at hr t)
    rw [AE] at AM
    have HM := Lib.hid hm
    clear AE hr MG0 hm
    generalize lasO l t = o at *
    go_enter Tryz.func7, Tryz.ntmps7
    repeat (first
      | (go_at_call 37; (with_reducible refine (MG.out _ K0.out).mono ?_); rintro x w1 ⟨A1, c1, rfl, r1, k1⟩; have R1 := Lib.hid r1; have K1 := Lib.hid k1; clear r1 k1; simp only [])
      | (go_at_call 31; refine (RI.out _ K1.out).mono ?_; rintro x w2 ⟨rfl, k2⟩; have R2 := Lib.hid (R1.out.next k2); have K2 := Lib.hid (bthen K1.out k2); clear k2; simp only [])
      | (go_at_call 37; (with_reducible refine (MM.out _ _ _ R2.out).mono ?_); rintro x w3 ⟨A3, c3, rfl, r3, k3⟩; have S3 := Lib.hid r3; have R3 := Lib.hid (R2.out.next k3); have K3 := Lib.hid (bthen K2.out k3); clear r3 k3; simp only [])
      | (go_at_call 29; refine (SM.out _ _ _ _ _ R3.out S3.out).mono ?_; rintro x w4 ⟨rfl, k4⟩; have R4 := Lib.hid (R3.out.next k4); have K4 := Lib.hid (bthen K3.out k4); clear k4; simp only [])
      | go_values | go_skip | go_guarded | go_step | go_upon | go_back)
    go_loopw [9, 10] (fun v u wr => ∃ i : Nat, u = .int .i64 (i : Int) ∧ i ≤ n ∧ v = .int .i64 ((mrgC none (l.take i)).length : Int) ∧ Below w4.heap.size w4 wr) (fun _ u _ => n - (intOf u).toNat)
    case atStart => exact ⟨0, rfl, by omega, rfl, Below.refl _ _⟩
    case round =>
      obtain ⟨i, rfl, hi, rfl, hk⟩ := hrel
      have HK := Lib.hid hk
      have KW := Lib.hid (bthen K4.out hk)
      have RW := Lib.hid (R4.out.next hk)
      clear hk
      by_cases hlt : i < n
      · have hlt' : (i : Int) < (n : Int) := by omega
        obtain ⟨x, hx⟩ : ∃ x, l[i]? = some x := ⟨_, List.getElem?_eq_getElem (by rw [HN.out]; omega)⟩
        obtain ⟨L, off, rfl, hL, x0, x1, x2, x3⟩ := cc_cells (AA.out.next KW.out) hx
        have HX := Lib.hid hx
        have d0 := bel_cell x0
        have d1 := bel_cell x1
        have d2 := bel_cell x2
        have d3 := bel_cell x3
        clear hx x0 x1 x2 x3
        by_cases hi0 : i = 0
        · have g0 : ¬ (i : Int) > 0 := by omega
          have NE : endC none (l.take i) ≠ some (loC x) := by rw [hi0]; simp [endC]
          have gd1 : decide ((i : Int) > 0) = false := decide_eq_false g0
          have gd2 : decide ((0 : Int) < (i : Int)) = false := decide_eq_false g0
          have gd3 : decide (0 < i) = false := decide_eq_false (by omega)
          clear hi0 g0
          repeat (first | go_values | go_skip | go_guarded | go_step | go_upon | go_back)
          refine region_bel mixed (by kernel_rfl) ?_
          repeat (with_reducible refine wpQuiet_step ?_; intro K hK; go_simp; (with_reducible refine hK _ ?_); clear hK K)
          with_reducible refine wpQuiet_nil ?_
          rintro w6 ⟨x6, hx6⟩
          have k6 : Below wr.heap.size wr w6 := hx6 ▸ x6.k
          have KW6 := Lib.hid (bthen KW.out k6)
          have RW6 := Lib.hid (RW.out.next k6)
          have HK6 := Lib.hid (bthen HK.out k6)
          clear hx6 x6 k6 d0 d1 d2 d3
          repeat (first | go_values | go_skip | go_guarded | go_step | go_upon | go_back)
          obtain ⟨mk, ml⟩ := mrg_at HX.out NE
          have ML := Lib.hid ml
          have hkl := (List.getElem?_eq_some_iff.1 mk).1
          have HB : Hid (wrap64 (((mrgC none (l.take i)).length : Int) + 1) = ((mrgC none (l.take i)).length : Int) + 1) := Lib.hid (by have := HM.out; unfold wrap64; omega)
          have hk0 : (0 : Int) ≤ ((mrgC none (l.take i)).length : Int) := by omega
          have hkl' : ¬ ((mrgC none (l.take i)).length : Int) ≥ ((mrgC none l).length : Int) := by omega
          have hkl2 : ((mrgC none (l.take i)).length : Int) < ((mrgC none l).length : Int) := by omega
          obtain ⟨L5, off5, rfl, hL5, z0, z1, z2, z3⟩ := cc_cells RW6.out mk
          obtain ⟨L6, off6, e6, hL6, x0, x1, x2, x3⟩ := cc_cells (AA.out.next KW6.out) HX.out
          cases e6
          have d0 := bel_cell x0
          have d1 := bel_cell x1
          have d2 := bel_cell x2
          have d3 := bel_cell x3
          have p0 := bel_cell z0
          have p1 := bel_cell z1
          have p2 := bel_cell z2
          have p3 := bel_cell z3
          clear mk ml x0 x1 x2 x3 z0 z1 z2 z3 NE
          repeat (first | go_values | go_skip | go_guarded | go_step | go_upon | go_back)
          refine region_bel mixed (by kernel_rfl) ?_
          repeat (with_reducible refine wpQuiet_step ?_; intro K hK; go_simp; (with_reducible refine hK _ ?_); clear hK K)
          with_reducible refine wpQuiet_nil ?_
          rintro w8 ⟨x8, hx8⟩
          have k8 : Below w6.heap.size w6 w8 := hx8 ▸ x8.k
          have HK8 := Lib.hid (bthen HK6.out k8)
          clear hx8 x8 k8 d0 d1 d2 d3 p0 p1 p2 p3
          repeat (first | go_values | go_skip | go_guarded | go_step | go_upon | go_back)
          go_roundw
          case rel => exact ⟨i + 1, by simp, by omega, by rw [ML.out]; simp; exact HB.out, HK8.out⟩
          case measure => simp [intOf] <;> omega
        · have g0 : (i : Int) > 0 := by omega
          obtain ⟨j, hij⟩ : ∃ j, i = j + 1 := ⟨i - 1, by omega⟩
          have hsub : IntKind.i64.wrap ((i : Int) - 1) = (j : Int) := by rw [IntWalk.i64_in _ (by omega)]; omega
          have hjn : (j : Int) < (n : Int) := by omega
          have hj0 : (0 : Int) ≤ (j : Int) := by omega
          obtain ⟨y, hy⟩ : ∃ y, l[j]? = some y := ⟨_, List.getElem?_eq_getElem (by rw [HN.out]; omega)⟩
          obtain ⟨L', off', e', hL', y0, y1, y2, y3⟩ := cc_cells (AA.out.next KW.out) hy
          cases e'
          have q1 := bel_cell y1
          have q2 := bel_cell y2
          have q3 := bel_cell y3
          have EE : Hid (endC none (l.take i) = some (loC y)) := Lib.hid (by rw [hij]; exact endC_take hy)
          have gd1 : decide ((i : Int) > 0) = true := decide_eq_true g0
          have gd2 : decide ((0 : Int) < (i : Int)) = true := decide_eq_true g0
          have gd3 : decide (0 < i) = true := decide_eq_true (by omega)
          clear hy y0 y1 y2 y3 hij hi0 g0
          obtain ⟨xt, xo, xd, xa⟩ := x
          obtain ⟨yt, yo, yd, ya⟩ := y
          simp only at d0 d1 d2 d3 q1 q2 q3
          by_cases e1 : xo = yo
          · subst e1
            by_cases e2 : xd = yd
            · subst e2
              by_cases e3 : xa = ya
              · subst e3
                have NO := Lib.hid (mrg_no HX.out EE.out)
                repeat (first | go_values | go_skip | go_guarded | go_step | go_upon | go_back)
                refine region_bel mixed (by kernel_rfl) ?_
                repeat (with_reducible refine wpQuiet_step ?_; intro K hK; go_simp; (with_reducible refine hK _ ?_); clear hK K)
                with_reducible refine wpQuiet_nil ?_
                rintro w6 ⟨x6, hx6⟩
                have k6 : Below wr.heap.size wr w6 := hx6 ▸ x6.k
                have KW6 := Lib.hid (bthen KW.out k6)
                have RW6 := Lib.hid (RW.out.next k6)
                have HK6 := Lib.hid (bthen HK.out k6)
                clear hx6 x6 k6 d0 d1 d2 d3 q1 q2 q3
                repeat (first | go_values | go_skip | go_guarded | go_step | go_upon | go_back)
                go_roundw
                case rel => exact ⟨i + 1, by simp, by omega, by rw [NO.out], HK6.out⟩
                case measure => simp [intOf] <;> omega
              · have e3' : ¬ (xa.toArray = ya.toArray) := fun h => e3 (by simpa using h)
                have NE : endC none (l.take i) ≠ some (loC ⟨xt, xo, xd, xa⟩) := by rw [EE.out]; intro h; unfold loC at h; injection h with h; injection h with h h'; injection h' with h' h2; exact e3 h2.symm
                repeat (first | go_values | go_skip | go_guarded | go_step | go_upon | go_back)
                refine region_bel mixed (by kernel_rfl) ?_
                repeat (with_reducible refine wpQuiet_step ?_; intro K hK; go_simp; (with_reducible refine hK _ ?_); clear hK K)
                with_reducible refine wpQuiet_nil ?_
                rintro w6 ⟨x6, hx6⟩
                have k6 : Below wr.heap.size wr w6 := hx6 ▸ x6.k
                have KW6 := Lib.hid (bthen KW.out k6)
                have RW6 := Lib.hid (RW.out.next k6)
                have HK6 := Lib.hid (bthen HK.out k6)
                clear hx6 x6 k6 d0 d1 d2 d3 q1 q2 q3
                repeat (first | go_values | go_skip | go_guarded | go_step | go_upon | go_back)
                obtain ⟨mk, ml⟩ := mrg_at HX.out NE
                have ML := Lib.hid ml
                have hkl := (List.getElem?_eq_some_iff.1 mk).1
                have HB : Hid (wrap64 (((mrgC none (l.take i)).length : Int) + 1) = ((mrgC none (l.take i)).length : Int) + 1) := Lib.hid (by have := HM.out; unfold wrap64; omega)
                have hk0 : (0 : Int) ≤ ((mrgC none (l.take i)).length : Int) := by omega
                have hkl' : ¬ ((mrgC none (l.take i)).length : Int) ≥ ((mrgC none l).length : Int) := by omega
                have hkl2 : ((mrgC none (l.take i)).length : Int) < ((mrgC none l).length : Int) := by omega
                obtain ⟨L5, off5, rfl, hL5, z0, z1, z2, z3⟩ := cc_cells RW6.out mk
                obtain ⟨L6, off6, e6, hL6, x0, x1, x2, x3⟩ := cc_cells (AA.out.next KW6.out) HX.out
                cases e6
                have d0 := bel_cell x0
                have d1 := bel_cell x1
                have d2 := bel_cell x2
                have d3 := bel_cell x3
                have p0 := bel_cell z0
                have p1 := bel_cell z1
                have p2 := bel_cell z2
                have p3 := bel_cell z3
                clear mk ml x0 x1 x2 x3 z0 z1 z2 z3 NE
                repeat (first | go_values | go_skip | go_guarded | go_step | go_upon | go_back)
                refine region_bel mixed (by kernel_rfl) ?_
                repeat (with_reducible refine wpQuiet_step ?_; intro K hK; go_simp; (with_reducible refine hK _ ?_); clear hK K)
                with_reducible refine wpQuiet_nil ?_
                rintro w8 ⟨x8, hx8⟩
                have k8 : Below w6.heap.size w6 w8 := hx8 ▸ x8.k
                have HK8 := Lib.hid (bthen HK6.out k8)
                clear hx8 x8 k8 d0 d1 d2 d3 p0 p1 p2 p3
                repeat (first | go_values | go_skip | go_guarded | go_step | go_upon | go_back)
                go_roundw
                case rel => exact ⟨i + 1, by simp, by omega, by rw [ML.out]; simp; exact HB.out, HK8.out⟩
                case measure => simp [intOf] <;> omega
            · have NE : endC none (l.take i) ≠ some (loC ⟨xt, xo, xd, xa⟩) := by rw [EE.out]; intro h; unfold loC at h; injection h with h; injection h with h h'; injection h' with h' h2; exact e2 h'.symm
              repeat (first | go_values | go_skip | go_guarded | go_step | go_upon | go_back)
              refine region_bel mixed (by kernel_rfl) ?_
              repeat (with_reducible refine wpQuiet_step ?_; intro K hK; go_simp; (with_reducible refine hK _ ?_); clear hK K)
              with_reducible refine wpQuiet_nil ?_
              rintro w6 ⟨x6, hx6⟩
              have k6 : Below wr.heap.size wr w6 := hx6 ▸ x6.k
              have KW6 := Lib.hid (bthen KW.out k6)
              have RW6 := Lib.hid (RW.out.next k6)
              have HK6 := Lib.hid (bthen HK.out k6)
              clear hx6 x6 k6 d0 d1 d2 d3 q1 q2 q3
              repeat (first | go_values | go_skip | go_guarded | go_step | go_upon | go_back)
              obtain ⟨mk, ml⟩ := mrg_at HX.out NE
              have ML := Lib.hid ml
              have hkl := (List.getElem?_eq_some_iff.1 mk).1
              have HB : Hid (wrap64 (((mrgC none (l.take i)).length : Int) + 1) = ((mrgC none (l.take i)).length : Int) + 1) := Lib.hid (by have := HM.out; unfold wrap64; omega)
              have hk0 : (0 : Int) ≤ ((mrgC none (l.take i)).length : Int) := by omega
              have hkl' : ¬ ((mrgC none (l.take i)).length : Int) ≥ ((mrgC none l).length : Int) := by omega
              have hkl2 : ((mrgC none (l.take i)).length : Int) < ((mrgC none l).length : Int) := by omega
              obtain ⟨L5, off5, rfl, hL5, z0, z1, z2, z3⟩ := cc_cells RW6.out mk
              obtain ⟨L6, off6, e6, hL6, x0, x1, x2, x3⟩ := cc_cells (AA.out.next KW6.out) HX.out
              cases e6
              have d0 := bel_cell x0
              have d1 := bel_cell x1
              have d2 := bel_cell x2
              have d3 := bel_cell x3
              have p0 := bel_cell z0
              have p1 := bel_cell z1
              have p2 := bel_cell z2
              have p3 := bel_cell z3
              clear mk ml x0 x1 x2 x3 z0 z1 z2 z3 NE
              repeat (first | go_values | go_skip | go_guarded | go_step | go_upon | go_back)
              refine region_bel mixed (by kernel_rfl) ?_
              repeat (with_reducible refine wpQuiet_step ?_; intro K hK; go_simp; (with_reducible refine hK _ ?_); clear hK K)
              with_reducible refine wpQuiet_nil ?_
              rintro w8 ⟨x8, hx8⟩
              have k8 : Below w6.heap.size w6 w8 := hx8 ▸ x8.k
              have HK8 := Lib.hid (bthen HK6.out k8)
              clear hx8 x8 k8 d0 d1 d2 d3 p0 p1 p2 p3
              repeat (first | go_values | go_skip | go_guarded | go_step | go_upon | go_back)
              go_roundw
              case rel => exact ⟨i + 1, by simp, by omega, by rw [ML.out]; simp; exact HB.out, HK8.out⟩
              case measure => simp [intOf] <;> omega
          · have NE : endC none (l.take i) ≠ some (loC ⟨xt, xo, xd, xa⟩) := by rw [EE.out]; intro h; unfold loC at h; injection h with h; injection h with h h'; exact e1 h.symm
            repeat (first | go_values | go_skip | go_guarded | go_step | go_upon | go_back)
            refine region_bel mixed (by kernel_rfl) ?_
            repeat (with_reducible refine wpQuiet_step ?_; intro K hK; go_simp; (with_reducible refine hK _ ?_); clear hK K)
            with_reducible refine wpQuiet_nil ?_
            rintro w6 ⟨x6, hx6⟩
            have k6 : Below wr.heap.size wr w6 := hx6 ▸ x6.k
            have KW6 := Lib.hid (bthen KW.out k6)
            have RW6 := Lib.hid (RW.out.next k6)
            have HK6 := Lib.hid (bthen HK.out k6)
            clear hx6 x6 k6 d0 d1 d2 d3 q1 q2 q3
            repeat (first | go_values | go_skip | go_guarded | go_step | go_upon | go_back)
            obtain ⟨mk, ml⟩ := mrg_at HX.out NE
            have ML := Lib.hid ml
            have hkl := (List.getElem?_eq_some_iff.1 mk).1
            have HB : Hid (wrap64 (((mrgC none (l.take i)).length : Int) + 1) = ((mrgC none (l.take i)).length : Int) + 1) := Lib.hid (by have := HM.out; unfold wrap64; omega)
            have hk0 : (0 : Int) ≤ ((mrgC none (l.take i)).length : Int) := by omega
            have hkl' : ¬ ((mrgC none (l.take i)).length : Int) ≥ ((mrgC none l).length : Int) := by omega
            have hkl2 : ((mrgC none (l.take i)).length : Int) < ((mrgC none l).length : Int) := by omega
            obtain ⟨L5, off5, rfl, hL5, z0, z1, z2, z3⟩ := cc_cells RW6.out mk
            obtain ⟨L6, off6, e6, hL6, x0, x1, x2, x3⟩ := cc_cells (AA.out.next KW6.out) HX.out
            cases e6
            have d0 := bel_cell x0
            have d1 := bel_cell x1
            have d2 := bel_cell x2
            have d3 := bel_cell x3
            have p0 := bel_cell z0
            have p1 := bel_cell z1
            have p2 := bel_cell z2
            have p3 := bel_cell z3
            clear mk ml x0 x1 x2 x3 z0 z1 z2 z3 NE
            repeat (first | go_values | go_skip | go_guarded | go_step | go_upon | go_back)
            refine region_bel mixed (by kernel_rfl) ?_
            repeat (with_reducible refine wpQuiet_step ?_; intro K hK; go_simp; (with_reducible refine hK _ ?_); clear hK K)
            with_reducible refine wpQuiet_nil ?_
            rintro w8 ⟨x8, hx8⟩
            have k8 : Below w6.heap.size w6 w8 := hx8 ▸ x8.k
            have HK8 := Lib.hid (bthen HK6.out k8)
            clear hx8 x8 k8 d0 d1 d2 d3 p0 p1 p2 p3
            repeat (first | go_values | go_skip | go_guarded | go_step | go_upon | go_back)
            go_roundw
            case rel => exact ⟨i + 1, by simp, by omega, by rw [ML.out]; simp; exact HB.out, HK8.out⟩
            case measure => simp [intOf] <;> omega
      · obtain rfl : i = n := by omega
        have hlt' : ¬ ((i : Nat) : Int) < (i : Int) := by omega
        have TK : l.take i = l := List.take_of_length_le (by rw [HN.out]; omega)
        simp only [TK]
        clear TK
        cases o with
        | none =>
          simp only [atC] at AM AT
          repeat (first
            | (go_at_call 33; (with_reducible refine (AT.out _ KW.out).mono ?_); rintro x w6 ⟨rfl, k6⟩; have P6 := Lib.hid (BlkN.make (bthen KW.out k6) #[.int .i64 0, .bool false, .string ⟨#[]⟩] 41); have R6 := Lib.hid (RW.out.next (bmk k6 (.cells #[.int .i64 0, .bool false, .string ⟨#[]⟩] 41))); clear k6; simp only [])
            | (go_at_call 33; (with_reducible refine (AM.out _ _ _ R6.out).mono ?_); rintro x w7 ⟨rfl, k7⟩; have P7 := Lib.hid ((P6.out.next k7).more (.cells #[.int .i64 0, .bool false, .string ⟨#[]⟩] 41)); have Q7 := Lib.hid (BlkN.make (bthen P6.out.bel k7) #[.int .i64 0, .bool false, .string ⟨#[]⟩] 41); clear k7; obtain ⟨p0, p1, p2⟩ := cel3 P7.out.blk; obtain ⟨q0, q1, q2⟩ := cel3 Q7.out.blk; simp only [])
            | (go_at_call 25; refine (AW.out _ P7.out.bel).mono ?_; rintro x w8 ⟨rfl, k8⟩; have K8 := Lib.hid (bthen P7.out.bel k8); clear k8; simp only [])
            | go_values | go_skip | go_guarded | go_step | go_upon | go_back)
          go_ret
          exact ⟨rfl, K8.out⟩
        | some y =>
          obtain ⟨yt, yo, yd, ya⟩ := y
          simp only [atC] at AM AT
          repeat (first
            | (go_at_call 33; (with_reducible refine (AT.out _ KW.out).mono ?_); rintro x w6 ⟨rfl, k6⟩; have P6 := Lib.hid (BlkN.make (bthen KW.out k6) #[.int .i64 yo, .bool yd, .string ⟨ya.toArray⟩] 41); have R6 := Lib.hid (RW.out.next (bmk k6 (.cells #[.int .i64 yo, .bool yd, .string ⟨ya.toArray⟩] 41))); clear k6; simp only [])
            | (go_at_call 33; (with_reducible refine (AM.out _ _ _ R6.out).mono ?_); rintro x w7 ⟨rfl, k7⟩; have P7 := Lib.hid ((P6.out.next k7).more (.cells #[.int .i64 yo, .bool yd, .string ⟨ya.toArray⟩] 41)); have Q7 := Lib.hid (BlkN.make (bthen P6.out.bel k7) #[.int .i64 yo, .bool yd, .string ⟨ya.toArray⟩] 41); clear k7; obtain ⟨p0, p1, p2⟩ := cel3 P7.out.blk; obtain ⟨q0, q1, q2⟩ := cel3 Q7.out.blk; simp only [])
            | (go_at_call 25; refine (AW.out _ P7.out.bel).mono ?_; rintro x w8 ⟨rfl, k8⟩; have K8 := Lib.hid (bthen P7.out.bel k8); clear k8; simp only [])
            | go_values | go_skip | go_guarded | go_step | go_upon | go_back)
          go_ret
          exact ⟨rfl, K8.out⟩
  · have RI := Lib.hid (fun W (k : Below w.heap.size w W) => rise_is A n c l false W (AA.out.next k) HN.out (by omega) (decide_eq_false hr).symm)
    have MG : Hid (∀ W, Below w.heap.size w W → Calls Tryz.prog 37 #[.slice A n c] W fun e w' => e = .returned (.tuple #[.slice none 0 0, .int .i64 17]) ∧ Below W.heap.size W w') := Lib.hid fun W k => (MG0 W k).mono (by
      rintro e w' (⟨-, h⟩ | ⟨h, -⟩)
      · exact h
      · exact absurd h hr)
    clear MG0 hr
    go_enter Tryz.func7, Tryz.ntmps7
    repeat (first
      | (go_at_call 37; refine (MG.out _ K0.out).mono ?_; rintro x w1 ⟨rfl, k1⟩; have K1 := Lib.hid k1; clear k1; simp only [])
      | (go_at_call 31; refine (RI.out _ K1.out).mono ?_; rintro x w2 ⟨rfl, k2⟩; have K2 := Lib.hid (bthen K1.out k2); clear k2; simp only [])
      | (go_at_call 25; refine (AW.out _ K2.out).mono ?_; rintro x w3 ⟨rfl, k3⟩; have K3 := Lib.hid (bthen K2.out k3); clear k3; simp only [])
      | go_values | go_skip | go_guarded | go_step | go_upon | go_back)
    go_ret
    exact ⟨rfl, K3.out⟩
end Go.Proofs.YtopjbchbdpncmaaGreatDoor

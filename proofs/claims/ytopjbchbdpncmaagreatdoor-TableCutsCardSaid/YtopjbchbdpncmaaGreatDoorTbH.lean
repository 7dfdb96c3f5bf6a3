/- The law TableCuts: what is cut out of a table shows what it shows there, and two cuts are one. -/
import Derived.Test.YtopjbchbdpncmaaGreatDoorMYF
import Derived.Test.YtopjbchbdpncmaaGreatDoorMYI
namespace Go.Proofs.YtopjbchbdpncmaaGreatDoor
open Go Go.RowKit Go.Shelf
attribute [local go_sem] Oper.semAt_some

theorem atC_loc {o q : Option CV} (h : o.map loC = q.map loC) : atC o = atC q := by
  cases o <;> cases q
  · rfl
  · cases h
  · cases h
  · rename_i x y
    have h1 : loC x = loC y := by simpa using h
    unfold loC at h1
    injection h1 with h1 h2
    injection h2 with h2 h3
    show Value.tuple _ = Value.tuple _
    rw [h1, h2, h3]
theorem ccut_len (l : List CV) (a b : Int) : (cutC l a b).length ≤ l.length + 1 := by
  unfold cutC
  rw [List.length_append]
  have h1 := List.length_filter_le (fun c : CV => decide (a < c.t ∧ c.t ≤ b)) l
  have h2 : ((lasO l a).toList.map fun c => (⟨a, c.of, c.ds, c.ab⟩ : CV)).length ≤ 1 := by cases lasO l a <;> simp
  omega
set_option maxRecDepth 20000 in
set_option maxHeartbeats 4000000 in
theorem tableCuts_is (A : Option Addr) (n c : Nat) (l : List CV) (a b d e t : Int) (w : World) (hZ : LaidZ w) (hA : RowsAt 4 cC A l w) (hn : l.length = n) (_hm : n ≤ maxLen) :
    Calls Tryz.prog 9 #[.slice A n c, .agg #[.int .i64 a, .int .i64 b, .int .i64 d, .int .i64 e], .int .i64 t] w fun x w' => x = .returned (.bool true) ∧ Below w.heap.size w w' := by
  have mixed : Tryz.prog.follows .mixedOrders = true := by kernel_rfl
  have X0 := Lib.hid (BlkN.make (Below.refl w.heap.size w) #[.int .i64 a, .int .i64 b, .int .i64 d, .int .i64 e] 90)
  have AW := Lib.hid (fun W (k : Below w.heap.size w W) => tawake_is W (hZ.next k))
  obtain ⟨x0, x1, x2, x3⟩ := cel4 X0.out.blk
  have AA := Lib.hid hA
  have HN := Lib.hid hn
  clear hA hn hZ
  by_cases hz : (n : Int) > 60
  · go_enter Tryz.func9, Tryz.ntmps9
    repeat (first
      | (go_at_call 25; refine (AW.out _ X0.out.bel).mono ?_; rintro x w2 ⟨rfl, k2⟩; simp only [])
      | go_values | go_skip | go_guarded | go_step | go_upon | go_back)
    go_ret
    exact ⟨rfl, bthen X0.out.bel k2⟩
  by_cases hr : RisC l
  · have RI := Lib.hid (fun W (k : Below w.heap.size w W) => rise_is A n c l true W (AA.out.next k) HN.out (by omega) (decide_eq_true hr).symm)
    have HR := Lib.hid hr
    clear hr
    by_cases g : b < a ∨ (¬ b < a ∧ d < a) ∨ (¬ b < a ∧ ¬ d < a ∧ e > b) ∨ (¬ b < a ∧ ¬ d < a ∧ ¬ e > b ∧ e < d)
    · rcases g with g1 | ⟨g1, g2⟩ | ⟨g1, g2, g3⟩ | ⟨g1, g2, g3, g4⟩
      all_goals
        go_enter Tryz.func9, Tryz.ntmps9
        repeat (first
          | (go_at_call 31; refine (RI.out _ X0.out.bel).mono ?_; rintro x w1 ⟨rfl, k1⟩; have X1 := Lib.hid (X0.out.next k1); clear k1 x0 x1 x2 x3; obtain ⟨x0, x1, x2, x3⟩ := cel4 X1.out.blk; simp only [])
          | (go_at_call 25; refine (AW.out _ X1.out.bel).mono ?_; rintro x w2 ⟨rfl, k2⟩; simp only [])
          | go_values | go_skip | go_guarded | go_step | go_upon | go_back)
        go_ret
        exact ⟨rfl, bthen X1.out.bel k2⟩
    have g1 : ¬ b < a := fun h => g (.inl h)
    have g2 : ¬ d < a := fun h => g (.inr (.inl ⟨g1, h⟩))
    have g3 : ¬ e > b := fun h => g (.inr (.inr (.inl ⟨g1, g2, h⟩)))
    have g4 : ¬ e < d := fun h => g (.inr (.inr (.inr ⟨g1, g2, g3, h⟩)))
    clear g
    have CU := Lib.hid (fun W (k : Below w.heap.size w W) => tcut_is A n c l a b W (AA.out.next k) HN.out (by omega))
    have CT := Lib.hid (fun W (k : Below w.heap.size w W) => tcut_is A n c l d e W (AA.out.next k) HN.out (by omega))
    have AT := Lib.hid (fun W (k : Below w.heap.size w W) => tat_is A n c l t W (AA.out.next k) HN.out (by omega))
    have LE := ccut_at (l := l) HR.out (a := a) (b := b) (t := t)
    have CC := Lib.hid (ccut_cut (l := l) HR.out (a := a) (b := b) (c := d) (d := e) (by omega) (by omega) (by omega))
    have LL : (cutC l a b).length ≤ 100 := by have := ccut_len l a b; have := HN.out; omega
    have L2 : (cutC l d e).length ≤ 100 := by have := ccut_len l d e; have := HN.out; omega
    generalize cutC l d e = K at *
    generalize cutC l a b = M at *
    have SM := Lib.hid (fun A B (p q : Nat) W (h1 : RowsAt 4 cC A K W) (h2 : RowsAt 4 cC B K W) => tsame_is A B K.length K.length p q K K true W h1 h2 rfl rfl (by omega) (by omega) (by simp))
    have CM := Lib.hid (fun (B : Option Addr) (p : Nat) W (h : RowsAt 4 cC B M W) => tcut_is B M.length p M d e W h rfl (by omega))
    rw [CC.out] at CM
    have AM := Lib.hid (fun (B : Option Addr) (p : Nat) W (h : RowsAt 4 cC B M W) => tat_is B M.length p M t W h rfl (by omega))
    have LH := Lib.hid LE
    clear LE CC
    by_cases gi : t ≥ a
    · by_cases gj : t ≤ b
      · have AE := Lib.hid (atC_loc (LH.out gi gj))
        rw [AE.out] at AM
        clear AE LH
        generalize lasO l t = o at *
        cases o with
        | none =>
          simp only [atC] at AM AT
          go_enter Tryz.func9, Tryz.ntmps9
          repeat (first
            | (go_at_call 31; refine (RI.out _ X0.out.bel).mono ?_; rintro x w1 ⟨rfl, k1⟩; have X1 := Lib.hid (X0.out.next k1); clear k1 x0 x1 x2 x3; obtain ⟨x0, x1, x2, x3⟩ := cel4 X1.out.blk; simp only [])
            | (go_at_call 36; (with_reducible refine (CU.out _ X1.out.bel).mono ?_); rintro x w2 ⟨A2, c2, rfl, o2, k2⟩; have R2 := Lib.hid (own_c o2 rfl); have X2 := Lib.hid (X1.out.next k2); clear o2 k2 x0 x1 x2 x3; obtain ⟨x0, x1, x2, x3⟩ := cel4 X2.out.blk; simp only [])
            | (go_at_call 33; (with_reducible refine (AT.out _ X2.out.bel).mono ?_); rintro x w3 ⟨rfl, k3⟩; have X3 := Lib.hid ((X2.out.next k3).more (.cells #[.int .i64 0, .bool false, .string ⟨#[]⟩] 41)); have R3 := Lib.hid (R2.out.next (bmk k3 (.cells #[.int .i64 0, .bool false, .string ⟨#[]⟩] 41))); have P3 := Lib.hid (BlkN.make (X2.out.next k3).bel #[.int .i64 0, .bool false, .string ⟨#[]⟩] 41); clear k3 x0 x1 x2 x3; simp only [])
            | (go_at_call 33; (with_reducible refine (AM.out _ _ _ R3.out).mono ?_); rintro x w4 ⟨rfl, k4⟩; have X4 := Lib.hid ((X3.out.next k4).more (.cells #[.int .i64 0, .bool false, .string ⟨#[]⟩] 41)); have R4 := Lib.hid (R3.out.next (bmk k4 (.cells #[.int .i64 0, .bool false, .string ⟨#[]⟩] 41))); have P4 := Lib.hid ((P3.out.next k4).more (.cells #[.int .i64 0, .bool false, .string ⟨#[]⟩] 41)); have Q4 := Lib.hid (BlkN.make (X3.out.next k4).bel #[.int .i64 0, .bool false, .string ⟨#[]⟩] 41); clear k4; obtain ⟨p0, p1, p2⟩ := cel3 P4.out.blk; obtain ⟨q0, q1, q2⟩ := cel3 Q4.out.blk; simp only [])
            | go_values | go_skip | go_guarded | go_step | go_upon | go_back)
          clear p0 p1 p2 q0 q1 q2
          obtain ⟨WR, hWR⟩ : ∃ WR, (w4.alloc (.cells #[.int .i64 0, .bool false, .string ⟨#[]⟩] 41)) = WR := ⟨_, rfl⟩
          simp only [hWR] at X4 R4 ⊢
          have XW := X4
          have RW := R4
          have KW := Lib.hid XW.out.bel
          have SK := Lib.hid (fun (w' : World) (k : Below WR.heap.size WR w') => (let q := cel4 (XW.out.next k).blk; ⟨q.2.2.1, q.2.2.2⟩ : w'.cell? ⟨w.heap.size, 2, none⟩ = some (.int .i64 d) ∧ w'.cell? ⟨w.heap.size, 3, none⟩ = some (.int .i64 e)))
          have K0 := Lib.hid (Below.refl WR.heap.size WR)
          have KD := Lib.hid (Below.refl WR.heap.size WR).drew
          clear hWR
          go_region_held3 (fun w' => w'.cell? ⟨w.heap.size, 2, none⟩ = some (.int .i64 d) ∧ w'.cell? ⟨w.heap.size, 3, none⟩ = some (.int .i64 e))
            (first | exact SK.out _ K0.out | exact SK.out _ KD.out | exact SK.out _ K6.out | exact SK.out _ K7.out | exact SK.out _ K8.out | exact SK.out _ K9.out)
            (first
              | (go_at_call 36; (with_reducible refine (CM.out _ _ _ (RW.out.next KD.out)).mono ?_); rintro x w6 ⟨A6, c6, rfl, o6, k6⟩; have Rm := Lib.hid (own_c o6 rfl); have K6 := Lib.hid (bthen KD.out k6))
              | (go_at_call 36; (with_reducible refine (CT.out _ (bthen KW.out KD.out)).mono ?_); rintro x w6 ⟨A6, c6, rfl, o6, k6⟩; have Rt := Lib.hid (own_c o6 rfl); have K6 := Lib.hid (bthen KD.out k6))
              | (go_at_call 36; (with_reducible refine (CM.out _ _ _ (RW.out.next K6.out)).mono ?_); rintro x w7 ⟨A7, c7, rfl, o7, k7⟩; have Rm := Lib.hid (own_c o7 rfl); have Rt := Lib.hid (Rt.out.next k7); have K7 := Lib.hid (bthen K6.out k7))
              | (go_at_call 36; (with_reducible refine (CT.out _ (bthen KW.out K6.out)).mono ?_); rintro x w7 ⟨A7, c7, rfl, o7, k7⟩; have Rt := Lib.hid (own_c o7 rfl); have Rm := Lib.hid (Rm.out.next k7); have K7 := Lib.hid (bthen K6.out k7))
              | (go_at_call 29; refine (SM.out _ _ _ _ _ Rm.out Rt.out).mono ?_; rintro x w8 ⟨rfl, k8⟩; have K8 := Lib.hid (bthen K7.out k8))
              | (go_at_call 25; refine (AW.out _ (bthen KW.out K8.out)).mono ?_; rintro x w9 ⟨rfl, k9⟩; have K9 := Lib.hid (bthen K8.out k9)))
          all_goals
            repeat (first | go_values | go_skip | go_guarded | go_step | go_upon | go_back)
            go_ret
            exact ⟨rfl, bthen KW.out K9.out⟩
        | some y =>
          obtain ⟨yt, yo, yd, ya⟩ := y
          simp only [atC] at AM AT
          go_enter Tryz.func9, Tryz.ntmps9
          repeat (first
            | (go_at_call 31; refine (RI.out _ X0.out.bel).mono ?_; rintro x w1 ⟨rfl, k1⟩; have X1 := Lib.hid (X0.out.next k1); clear k1 x0 x1 x2 x3; obtain ⟨x0, x1, x2, x3⟩ := cel4 X1.out.blk; simp only [])
            | (go_at_call 36; (with_reducible refine (CU.out _ X1.out.bel).mono ?_); rintro x w2 ⟨A2, c2, rfl, o2, k2⟩; have R2 := Lib.hid (own_c o2 rfl); have X2 := Lib.hid (X1.out.next k2); clear o2 k2 x0 x1 x2 x3; obtain ⟨x0, x1, x2, x3⟩ := cel4 X2.out.blk; simp only [])
            | (go_at_call 33; (with_reducible refine (AT.out _ X2.out.bel).mono ?_); rintro x w3 ⟨rfl, k3⟩; have X3 := Lib.hid ((X2.out.next k3).more (.cells #[.int .i64 yo, .bool yd, .string ⟨ya.toArray⟩] 41)); have R3 := Lib.hid (R2.out.next (bmk k3 (.cells #[.int .i64 yo, .bool yd, .string ⟨ya.toArray⟩] 41))); have P3 := Lib.hid (BlkN.make (X2.out.next k3).bel #[.int .i64 yo, .bool yd, .string ⟨ya.toArray⟩] 41); clear k3 x0 x1 x2 x3; simp only [])
            | (go_at_call 33; (with_reducible refine (AM.out _ _ _ R3.out).mono ?_); rintro x w4 ⟨rfl, k4⟩; have X4 := Lib.hid ((X3.out.next k4).more (.cells #[.int .i64 yo, .bool yd, .string ⟨ya.toArray⟩] 41)); have R4 := Lib.hid (R3.out.next (bmk k4 (.cells #[.int .i64 yo, .bool yd, .string ⟨ya.toArray⟩] 41))); have P4 := Lib.hid ((P3.out.next k4).more (.cells #[.int .i64 yo, .bool yd, .string ⟨ya.toArray⟩] 41)); have Q4 := Lib.hid (BlkN.make (X3.out.next k4).bel #[.int .i64 yo, .bool yd, .string ⟨ya.toArray⟩] 41); clear k4; obtain ⟨p0, p1, p2⟩ := cel3 P4.out.blk; obtain ⟨q0, q1, q2⟩ := cel3 Q4.out.blk; simp only [])
            | go_values | go_skip | go_guarded | go_step | go_upon | go_back)
          clear p0 p1 p2 q0 q1 q2
          obtain ⟨WR, hWR⟩ : ∃ WR, (w4.alloc (.cells #[.int .i64 yo, .bool yd, .string ⟨ya.toArray⟩] 41)) = WR := ⟨_, rfl⟩
          simp only [hWR] at X4 R4 ⊢
          have XW := X4
          have RW := R4
          have KW := Lib.hid XW.out.bel
          have SK := Lib.hid (fun (w' : World) (k : Below WR.heap.size WR w') => (let q := cel4 (XW.out.next k).blk; ⟨q.2.2.1, q.2.2.2⟩ : w'.cell? ⟨w.heap.size, 2, none⟩ = some (.int .i64 d) ∧ w'.cell? ⟨w.heap.size, 3, none⟩ = some (.int .i64 e)))
          have K0 := Lib.hid (Below.refl WR.heap.size WR)
          have KD := Lib.hid (Below.refl WR.heap.size WR).drew
          clear hWR
          go_region_held3 (fun w' => w'.cell? ⟨w.heap.size, 2, none⟩ = some (.int .i64 d) ∧ w'.cell? ⟨w.heap.size, 3, none⟩ = some (.int .i64 e))
            (first | exact SK.out _ K0.out | exact SK.out _ KD.out | exact SK.out _ K6.out | exact SK.out _ K7.out | exact SK.out _ K8.out | exact SK.out _ K9.out)
            (first
              | (go_at_call 36; (with_reducible refine (CM.out _ _ _ (RW.out.next KD.out)).mono ?_); rintro x w6 ⟨A6, c6, rfl, o6, k6⟩; have Rm := Lib.hid (own_c o6 rfl); have K6 := Lib.hid (bthen KD.out k6))
              | (go_at_call 36; (with_reducible refine (CT.out _ (bthen KW.out KD.out)).mono ?_); rintro x w6 ⟨A6, c6, rfl, o6, k6⟩; have Rt := Lib.hid (own_c o6 rfl); have K6 := Lib.hid (bthen KD.out k6))
              | (go_at_call 36; (with_reducible refine (CM.out _ _ _ (RW.out.next K6.out)).mono ?_); rintro x w7 ⟨A7, c7, rfl, o7, k7⟩; have Rm := Lib.hid (own_c o7 rfl); have Rt := Lib.hid (Rt.out.next k7); have K7 := Lib.hid (bthen K6.out k7))
              | (go_at_call 36; (with_reducible refine (CT.out _ (bthen KW.out K6.out)).mono ?_); rintro x w7 ⟨A7, c7, rfl, o7, k7⟩; have Rt := Lib.hid (own_c o7 rfl); have Rm := Lib.hid (Rm.out.next k7); have K7 := Lib.hid (bthen K6.out k7))
              | (go_at_call 29; refine (SM.out _ _ _ _ _ Rm.out Rt.out).mono ?_; rintro x w8 ⟨rfl, k8⟩; have K8 := Lib.hid (bthen K7.out k8))
              | (go_at_call 25; refine (AW.out _ (bthen KW.out K8.out)).mono ?_; rintro x w9 ⟨rfl, k9⟩; have K9 := Lib.hid (bthen K8.out k9)))
          all_goals
            repeat (first | go_values | go_skip | go_guarded | go_step | go_upon | go_back)
            go_ret
            exact ⟨rfl, bthen KW.out K9.out⟩
      · go_enter Tryz.func9, Tryz.ntmps9
        repeat (first
          | (go_at_call 31; refine (RI.out _ X0.out.bel).mono ?_; rintro x w1 ⟨rfl, k1⟩; have X1 := Lib.hid (X0.out.next k1); clear k1 x0 x1 x2 x3; obtain ⟨x0, x1, x2, x3⟩ := cel4 X1.out.blk; simp only [])
          | (go_at_call 36; (with_reducible refine (CU.out _ X1.out.bel).mono ?_); rintro x w2 ⟨A2, c2, rfl, o2, k2⟩; have R2 := Lib.hid (own_c o2 rfl); have X2 := Lib.hid (X1.out.next k2); clear o2 k2 x0 x1 x2 x3; obtain ⟨x0, x1, x2, x3⟩ := cel4 X2.out.blk; simp only [])
          | go_values | go_skip | go_guarded | go_step | go_upon | go_back)
        clear x0 x1 x2 x3
        obtain ⟨WR, hWR⟩ : ∃ WR, w2 = WR := ⟨_, rfl⟩
        simp only [hWR] at X2 R2 ⊢
        have XW := X2
        have RW := R2
        have KW := Lib.hid XW.out.bel
        have SK := Lib.hid (fun (w' : World) (k : Below WR.heap.size WR w') => (let q := cel4 (XW.out.next k).blk; ⟨q.2.2.1, q.2.2.2⟩ : w'.cell? ⟨w.heap.size, 2, none⟩ = some (.int .i64 d) ∧ w'.cell? ⟨w.heap.size, 3, none⟩ = some (.int .i64 e)))
        have K0 := Lib.hid (Below.refl WR.heap.size WR)
        have KD := Lib.hid (Below.refl WR.heap.size WR).drew
        clear hWR
        go_region_held3 (fun w' => w'.cell? ⟨w.heap.size, 2, none⟩ = some (.int .i64 d) ∧ w'.cell? ⟨w.heap.size, 3, none⟩ = some (.int .i64 e))
          (first | exact SK.out _ K0.out | exact SK.out _ KD.out | exact SK.out _ K6.out | exact SK.out _ K7.out | exact SK.out _ K8.out | exact SK.out _ K9.out)
          (first
            | (go_at_call 36; (with_reducible refine (CM.out _ _ _ (RW.out.next KD.out)).mono ?_); rintro x w6 ⟨A6, c6, rfl, o6, k6⟩; have Rm := Lib.hid (own_c o6 rfl); have K6 := Lib.hid (bthen KD.out k6))
            | (go_at_call 36; (with_reducible refine (CT.out _ (bthen KW.out KD.out)).mono ?_); rintro x w6 ⟨A6, c6, rfl, o6, k6⟩; have Rt := Lib.hid (own_c o6 rfl); have K6 := Lib.hid (bthen KD.out k6))
            | (go_at_call 36; (with_reducible refine (CM.out _ _ _ (RW.out.next K6.out)).mono ?_); rintro x w7 ⟨A7, c7, rfl, o7, k7⟩; have Rm := Lib.hid (own_c o7 rfl); have Rt := Lib.hid (Rt.out.next k7); have K7 := Lib.hid (bthen K6.out k7))
            | (go_at_call 36; (with_reducible refine (CT.out _ (bthen KW.out K6.out)).mono ?_); rintro x w7 ⟨A7, c7, rfl, o7, k7⟩; have Rt := Lib.hid (own_c o7 rfl); have Rm := Lib.hid (Rm.out.next k7); have K7 := Lib.hid (bthen K6.out k7))
            | (go_at_call 29; refine (SM.out _ _ _ _ _ Rm.out Rt.out).mono ?_; rintro x w8 ⟨rfl, k8⟩; have K8 := Lib.hid (bthen K7.out k8))
            | (go_at_call 25; refine (AW.out _ (bthen KW.out K8.out)).mono ?_; rintro x w9 ⟨rfl, k9⟩; have K9 := Lib.hid (bthen K8.out k9)))
        all_goals
          repeat (first | go_values | go_skip | go_guarded | go_step | go_upon | go_back)
          go_ret
          exact ⟨rfl, bthen KW.out K9.out⟩
    · go_enter Tryz.func9, Tryz.ntmps9
      repeat (first
        | (go_at_call 31; refine (RI.out _ X0.out.bel).mono ?_; rintro x w1 ⟨rfl, k1⟩; have X1 := Lib.hid (X0.out.next k1); clear k1 x0 x1 x2 x3; obtain ⟨x0, x1, x2, x3⟩ := cel4 X1.out.blk; simp only [])
        | (go_at_call 36; (with_reducible refine (CU.out _ X1.out.bel).mono ?_); rintro x w2 ⟨A2, c2, rfl, o2, k2⟩; have R2 := Lib.hid (own_c o2 rfl); have X2 := Lib.hid (X1.out.next k2); clear o2 k2 x0 x1 x2 x3; obtain ⟨x0, x1, x2, x3⟩ := cel4 X2.out.blk; simp only [])
        | go_values | go_skip | go_guarded | go_step | go_upon | go_back)
      clear x0 x1 x2 x3
      obtain ⟨WR, hWR⟩ : ∃ WR, w2 = WR := ⟨_, rfl⟩
      simp only [hWR] at X2 R2 ⊢
      have XW := X2
      have RW := R2
      have KW := Lib.hid XW.out.bel
      have SK := Lib.hid (fun (w' : World) (k : Below WR.heap.size WR w') => (let q := cel4 (XW.out.next k).blk; ⟨q.2.2.1, q.2.2.2⟩ : w'.cell? ⟨w.heap.size, 2, none⟩ = some (.int .i64 d) ∧ w'.cell? ⟨w.heap.size, 3, none⟩ = some (.int .i64 e)))
      have K0 := Lib.hid (Below.refl WR.heap.size WR)
      have KD := Lib.hid (Below.refl WR.heap.size WR).drew
      clear hWR
      go_region_held3 (fun w' => w'.cell? ⟨w.heap.size, 2, none⟩ = some (.int .i64 d) ∧ w'.cell? ⟨w.heap.size, 3, none⟩ = some (.int .i64 e))
        (first | exact SK.out _ K0.out | exact SK.out _ KD.out | exact SK.out _ K6.out | exact SK.out _ K7.out | exact SK.out _ K8.out | exact SK.out _ K9.out)
        (first
          | (go_at_call 36; (with_reducible refine (CM.out _ _ _ (RW.out.next KD.out)).mono ?_); rintro x w6 ⟨A6, c6, rfl, o6, k6⟩; have Rm := Lib.hid (own_c o6 rfl); have K6 := Lib.hid (bthen KD.out k6))
          | (go_at_call 36; (with_reducible refine (CT.out _ (bthen KW.out KD.out)).mono ?_); rintro x w6 ⟨A6, c6, rfl, o6, k6⟩; have Rt := Lib.hid (own_c o6 rfl); have K6 := Lib.hid (bthen KD.out k6))
          | (go_at_call 36; (with_reducible refine (CM.out _ _ _ (RW.out.next K6.out)).mono ?_); rintro x w7 ⟨A7, c7, rfl, o7, k7⟩; have Rm := Lib.hid (own_c o7 rfl); have Rt := Lib.hid (Rt.out.next k7); have K7 := Lib.hid (bthen K6.out k7))
          | (go_at_call 36; (with_reducible refine (CT.out _ (bthen KW.out K6.out)).mono ?_); rintro x w7 ⟨A7, c7, rfl, o7, k7⟩; have Rt := Lib.hid (own_c o7 rfl); have Rm := Lib.hid (Rm.out.next k7); have K7 := Lib.hid (bthen K6.out k7))
          | (go_at_call 29; refine (SM.out _ _ _ _ _ Rm.out Rt.out).mono ?_; rintro x w8 ⟨rfl, k8⟩; have K8 := Lib.hid (bthen K7.out k8))
          | (go_at_call 25; refine (AW.out _ (bthen KW.out K8.out)).mono ?_; rintro x w9 ⟨rfl, k9⟩; have K9 := Lib.hid (bthen K8.out k9)))
      all_goals
        repeat (first | go_values | go_skip | go_guarded | go_step | go_upon | go_back)
        go_ret
        exact ⟨rfl, bthen KW.out K9.out⟩
  · have RI := Lib.hid (fun W (k : Below w.heap.size w W) => rise_is A n c l false W (AA.out.next k) HN.out (by omega) (decide_eq_false hr).symm)
    go_enter Tryz.func9, Tryz.ntmps9
    repeat (first
      | (go_at_call 31; refine (RI.out _ X0.out.bel).mono ?_; rintro x w1 ⟨rfl, k1⟩; have X1 := Lib.hid (X0.out.next k1); clear k1 x0 x1 x2 x3; obtain ⟨x0, x1, x2, x3⟩ := cel4 X1.out.blk; simp only [])
      | (go_at_call 25; refine (AW.out _ X1.out.bel).mono ?_; rintro x w2 ⟨rfl, k2⟩; simp only [])
      | go_values | go_skip | go_guarded | go_step | go_upon | go_back)
    go_ret
    exact ⟨rfl, bthen X1.out.bel k2⟩
end Go.Proofs.YtopjbchbdpncmaaGreatDoor

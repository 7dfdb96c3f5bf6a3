/- The law TableFinds: the walk. -/
import Derived.Test.YtdmfgechoanmlaaGreatDoorTbL
import Derived.Test.YtdmfgechoanmlaaGreatDoorRgV
import Derived.BigQuiet
import Derived.WalkSmall
import Derived.StillTailTactics
namespace Go.Proofs.YtdmfgechoanmlaaGreatDoor
open Go Go.RowKit Go.Shelf
attribute [local go_sem] Oper.semAt_some

theorem OwnV.drewN {b : Nat} {v : Value} {L : List CV} {W : World} (h : OwnV b v L W) (n : Nat) : OwnV b v L (W.drewN n) :=
  ⟨h.1.kept (grown_bel (below_drewN (Below.refl _ W) n) none) (by cases h : v.ownBlock with | none => exact .inl rfl | some r => exact .inr (by simp)), h.2⟩
theorem wpList_cpush {w : World} {ops : Array Oper} {rest : List Oper} {o : Oper} {a : Act} {Q : Exit → Act → World → Prop} (hgd : o.guard = none) (s x : Operand)
    (ho : o.op = .call { callee := .builtin .append, args := #[s, x], argTypes := #[65, 65] }) {base : Nat} {v : Value} {L : List CV} (y : CV) (X : OwnV base v L w)
    (hs : a.eval s = v) (ad : Addr) (hx : a.eval x = .slice (some ad) 1 1) (hb : ∀ j u, (cC y).toList[j]? = some u → w.cell? (ad.add j) = some u) (hl : L.length ≤ 100000) (hbase : base ≤ w.heap.size)
    (h : ∀ v' w', OwnV base v' (L ++ [y]) w' → Below base w w' → wpList Tryz.prog ops Q rest (a.put o.dst v') w') : wpList Tryz.prog ops Q (o :: rest) a w := by
  obtain ⟨i0, hi0, hz0, hz1, hz2⟩ := info_parts ch_info
  refine wpList_append_own_at _ hgd s x _ ho base 71 i0 _ 4 40 Tryz.underlying65 hi0 hz0 hz1 hz2 rfl (by omega) v L.length _ hs X.1 ad 1 1 (cC y).toList hx rfl hb (cC_one y) (by simp only [maxLen]; omega) (by omega) hbase ?_
  intro v' w' hown hg _ _
  exact h v' w' (OwnV.push hown) (own_below X.1 hg hbase)
set_option maxRecDepth 20000 in
set_option maxHeartbeats 8000000 in
theorem tableFinds_is (A : Option Addr) (c : Nat) (l : List CV) (p q : Int) (w : World) (hZ : LaidZ w) (hA : RowsAt 4 cC A l w) :
    Calls Tryz.prog 5 #[.slice A l.length c, .agg #[.int .i64 p, .int .i64 q]] w fun x w' => x = .returned (.bool true) ∧ Below w.heap.size w w' := by
  have mixed : Tryz.prog.follows .mixedOrders = true := by kernel_rfl
  have X0 := Lib.hid (BlkN.make (Below.refl w.heap.size w) #[.int .i64 p, .int .i64 q] 63)
  have AW := Lib.hid (fun W (k : Below w.heap.size w W) => tawake_is W (hZ.next k))
  obtain ⟨x0, x1⟩ := cel2 X0.out.blk
  have AA := Lib.hid hA
  obtain ⟨n, hn⟩ : ∃ n, l.length = n := ⟨_, rfl⟩
  have HN := Lib.hid hn
  rw [hn]
  clear hA hZ hn
  by_cases hz : (n : Int) > 60
  · go_enter Tryz.func5, Tryz.ntmps5
    repeat (first
      | (go_at_call 19; refine (AW.out _ X0.out.bel).mono ?_; rintro x w2 ⟨rfl, k2⟩; simp only [])
      | go_values | go_skip | go_guarded | go_step | go_upon | go_back)
    go_ret
    exact ⟨rfl, bthen X0.out.bel k2⟩
  by_cases hr : RisC l
  · have RI := Lib.hid (fun W (k : Below w.heap.size w W) => rise_is A n c l true W (AA.out.next k) HN.out (by omega) (decide_eq_true hr).symm)
    have HR := Lib.hid hr
    have H60 : Hid (n ≤ 60) := Lib.hid (by omega)
    clear hr
    go_enter Tryz.func5, Tryz.ntmps5
    repeat (first
      | (go_at_call 18; refine (RI.out _ X0.out.bel).mono ?_; rintro x w1 ⟨rfl, k1⟩; have X1 := Lib.hid (X0.out.next k1); clear k1 x0 x1; simp only [])
      | go_values | go_skip | go_guarded | go_step | go_upon | go_back)
    go_loopw [6] (fun u wr => ∃ i : Nat, u = .int .i64 (i : Int) ∧ i ≤ 2 ∧ Below w1.heap.size w1 wr) (fun u _ => 2 - (intOf u).toNat)
    case atStart => exact ⟨0, rfl, by omega, Below.refl _ _⟩
    case round =>
      obtain ⟨i, rfl, hi, hk⟩ := hrel
      have K := Lib.hid (bthen X1.out.bel hk)
      have HK := Lib.hid hk
      have XR := Lib.hid (X1.out.next hk)
      clear hk
      by_cases hlt : i < 2
      · have hlt' : (i : Int) < 2 := by omega
        obtain ⟨t, x0⟩ : ∃ t, wr.cell? ⟨w.heap.size, i, none⟩ = some (.int .i64 t) := by
          obtain ⟨x0, x1⟩ := cel2 XR.out.blk
          by_cases h : i = 0
          · subst h; exact ⟨_, x0⟩
          · have : i = 1 := by omega
            subst this; exact ⟨_, x1⟩
        have LS := fun W (k : Below w.heap.size w W) => rlast_is' A n c l t W (AA.out.next k) HN.out (by have := H60.out; omega)
        have AT := fun W (k : Below w.heap.size w W) => tat_is A n c l t W (AA.out.next k) HN.out (by have := H60.out; omega)
        have NX := fun W (k : Below w.heap.size w W) => tnext_is A n c l t W (AA.out.next k) HN.out (by have := H60.out; omega) HR.out
        have PV := fun W (k : Below w.heap.size w W) => tprev_is A n c l t W (AA.out.next k) HN.out (by have := H60.out; omega)
        have FW := fdW l t
        rcases FW with ⟨h0, hl, ha, hb, hc⟩ | ⟨z, h0, hz, ha, hb, hc⟩ | ⟨x, h0, hl, hx, ha, hb, hc⟩ | ⟨x, z, h0, hx, hz, ha, hb, hc⟩ | ⟨k, x, h0, hk, hl, hx, ha, hb, hc⟩ | ⟨k, x, z, h0, hk, hx, hz, ha, hb, hc⟩
        · rw [HN.out] at h0 hl
          rw [h0] at LS
          rw [ha] at AT
          rw [hb] at NX
          rw [hc] at PV
          have q6 : decide ((0 : Int) < (n : Int)) = false := decide_eq_false (by omega)
          have q7 : decide (0 < n) = false := decide_eq_false (by omega)
          clear hl
          have LS := Lib.hid LS
          have AT := Lib.hid AT
          have NX := Lib.hid NX
          have PV := Lib.hid PV
          simp only [atC, chC] at AT NX PV
          clear h0 ha hb hc
          have C0 := Lib.hid (show ∀ W, Below w.heap.size w W → Below wr.heap.size wr W → W.cell? ⟨w.heap.size, i, none⟩ = some (.int .i64 t) from fun W _ h => (h.cell (p := ⟨w.heap.size, i, none⟩) (cell_lt x0)).trans x0)
          have XI := Lib.hid x0
          repeat (first
            | (go_at_call 20; refine (LS.out _ K.out).mono ?_; rintro x w6 ⟨rfl, k6⟩; have J6 := Lib.hid k6; have x0 := C0.out _ (bthen K.out k6) k6; clear k6; simp only [])
            | (go_at_call 21; refine (AT.out _ (bthen K.out J6.out)).mono ?_; rintro x w7 ⟨rfl, k7⟩; have P7 := Lib.hid (BlkN.make (bthen J6.out k7) #[.int .i64 0, .bool false, .string ⟨#[]⟩] 41); have x0 := C0.out _ (bthen K.out P7.out.bel) P7.out.bel; clear k7; simp only [])
            | (go_at_call 22; refine (NX.out _ (bthen K.out P7.out.bel)).mono ?_; rintro x w8 ⟨rfl, k8⟩; have P7b := Lib.hid ((P7.out.next k8).more (.cells #[.int .i64 0, .int .i64 0, .bool false, .string ⟨#[]⟩] 71)); have P8 := Lib.hid (BlkN.make (bthen P7.out.bel k8) #[.int .i64 0, .int .i64 0, .bool false, .string ⟨#[]⟩] 71); have x0 := C0.out _ (bthen K.out P8.out.bel) P8.out.bel; clear k8; simp only [])
            | (go_at_call 23; refine (PV.out _ (bthen K.out P8.out.bel)).mono ?_; rintro x w9 ⟨rfl, k9⟩; have P7c := Lib.hid ((P7b.out.next k9).more (.cells #[.int .i64 0, .int .i64 0, .bool false, .string ⟨#[]⟩] 71)); have P8b := Lib.hid ((P8.out.next k9).more (.cells #[.int .i64 0, .int .i64 0, .bool false, .string ⟨#[]⟩] 71)); have P9 := Lib.hid (BlkN.make (bthen P8.out.bel k9) #[.int .i64 0, .int .i64 0, .bool false, .string ⟨#[]⟩] 71); clear k9; simp only [])
            | go_values | go_skip | go_guarded | go_step | go_upon | go_back)
          obtain ⟨V, hV⟩ : ∃ V, (w9.alloc (.cells #[.int .i64 0, .int .i64 0, .bool false, .string ⟨#[]⟩] 71)) = V := ⟨_, rfl⟩
          simp only [hV] at P7c P8b P9 ⊢
          have J0 := Lib.hid P9.out.bel
          clear hV x0
          obtain ⟨a0, a1, a2⟩ := cel3 P7c.out.blk
          obtain ⟨b0, b1, b2, b3⟩ := cel4 P8b.out.blk
          obtain ⟨c0, c1, c2, c3⟩ := cel4 P9.out.blk
          have KV := Lib.hid (bthen HK.out P9.out.bel)
          go_quiet (fail)
          repeat (first | go_values | go_skip | go_guarded | go_step | go_upon | go_back)
          go_quiet (fail)
          repeat (first | go_values | go_skip | go_guarded | go_step | go_upon | go_back)
          go_quiet (fail)
          repeat (first | go_values | go_skip | go_guarded | go_step | go_upon | go_back)
          go_roundw
          case rel => exact ⟨i + 1, by simp, by omega, below_drewN KV.out _⟩
          case measure => simp [intOf] <;> omega
        · rw [HN.out] at h0 
          rw [h0] at LS
          rw [ha] at AT
          rw [hb] at NX
          rw [hc] at PV
          have HZZ := Lib.hid hz
          obtain ⟨zt, zo, zd, za⟩ := z
          have hkz := (List.getElem?_eq_some_iff.1 hz).1
          rw [HN.out] at hkz
          have q6 : decide ((0 : Int) < (n : Int)) = true := decide_eq_true (by omega)
          have q7 : decide (0 < n) = true := decide_eq_true hkz
          have hmn : (0 : Int) < (n : Int) := by omega
          have hmn' : 0 < n := by omega
          clear hkz
          have LS := Lib.hid LS
          have AT := Lib.hid AT
          have NX := Lib.hid NX
          have PV := Lib.hid PV
          simp only [atC, chC] at AT NX PV
          clear h0 ha hb hc hz
          have C0 := Lib.hid (show ∀ W, Below w.heap.size w W → Below wr.heap.size wr W → W.cell? ⟨w.heap.size, i, none⟩ = some (.int .i64 t) from fun W _ h => (h.cell (p := ⟨w.heap.size, i, none⟩) (cell_lt x0)).trans x0)
          have XI := Lib.hid x0
          repeat (first
            | (go_at_call 20; refine (LS.out _ K.out).mono ?_; rintro x w6 ⟨rfl, k6⟩; have J6 := Lib.hid k6; have x0 := C0.out _ (bthen K.out k6) k6; clear k6; simp only [])
            | (go_at_call 21; refine (AT.out _ (bthen K.out J6.out)).mono ?_; rintro x w7 ⟨rfl, k7⟩; have P7 := Lib.hid (BlkN.make (bthen J6.out k7) #[.int .i64 0, .bool false, .string ⟨#[]⟩] 41); have x0 := C0.out _ (bthen K.out P7.out.bel) P7.out.bel; clear k7; simp only [])
            | (go_at_call 22; refine (NX.out _ (bthen K.out P7.out.bel)).mono ?_; rintro x w8 ⟨rfl, k8⟩; have P7b := Lib.hid ((P7.out.next k8).more (.cells #[.int .i64 zt, .int .i64 zo, .bool zd, .string ⟨za.toArray⟩] 71)); have P8 := Lib.hid (BlkN.make (bthen P7.out.bel k8) #[.int .i64 zt, .int .i64 zo, .bool zd, .string ⟨za.toArray⟩] 71); have x0 := C0.out _ (bthen K.out P8.out.bel) P8.out.bel; clear k8; simp only [])
            | (go_at_call 23; refine (PV.out _ (bthen K.out P8.out.bel)).mono ?_; rintro x w9 ⟨rfl, k9⟩; have P7c := Lib.hid ((P7b.out.next k9).more (.cells #[.int .i64 0, .int .i64 0, .bool false, .string ⟨#[]⟩] 71)); have P8b := Lib.hid ((P8.out.next k9).more (.cells #[.int .i64 0, .int .i64 0, .bool false, .string ⟨#[]⟩] 71)); have P9 := Lib.hid (BlkN.make (bthen P8.out.bel k9) #[.int .i64 0, .int .i64 0, .bool false, .string ⟨#[]⟩] 71); clear k9; simp only [])
            | go_values | go_skip | go_guarded | go_step | go_upon | go_back)
          obtain ⟨V, hV⟩ : ∃ V, (w9.alloc (.cells #[.int .i64 0, .int .i64 0, .bool false, .string ⟨#[]⟩] 71)) = V := ⟨_, rfl⟩
          simp only [hV] at P7c P8b P9 ⊢
          have J0 := Lib.hid P9.out.bel
          clear hV x0
          obtain ⟨a0, a1, a2⟩ := cel3 P7c.out.blk
          obtain ⟨b0, b1, b2, b3⟩ := cel4 P8b.out.blk
          obtain ⟨c0, c1, c2, c3⟩ := cel4 P9.out.blk
          obtain ⟨L2, off2, eL, hL2, e0, e1, e2, e3⟩ := cc_cells (AA.out.next (bthen K.out P9.out.bel)) HZZ.out
          subst eL
          simp only at e0 e1 e2 e3
          simp only [Nat.zero_mul, Nat.add_zero] at e0 e1 e2 e3
          have KV := Lib.hid (bthen HK.out P9.out.bel)
          go_quiet (fail)
          repeat (first | go_values | go_skip | go_guarded | go_step | go_upon | go_back)
          go_quiet (fail)
          repeat (first | go_values | go_skip | go_guarded | go_step | go_upon | go_back)
          go_quiet (fail)
          repeat (first | go_values | go_skip | go_guarded | go_step | go_upon | go_back)
          go_roundw
          case rel => exact ⟨i + 1, by simp, by omega, below_drewN KV.out _⟩
          case measure => simp [intOf] <;> omega
        · rw [HN.out] at h0 hl
          rw [h0] at LS
          rw [ha] at AT
          rw [hb] at NX
          rw [hc] at PV
          have HX := Lib.hid hx
          obtain ⟨xt, xo, xd, xa⟩ := x
          have q6 : decide ((1 : Int) < (n : Int)) = false := decide_eq_false (by omega)
          have q7 : decide (1 < n) = false := decide_eq_false (by omega)
          have hkn : (0 : Int) < (n : Int) := by omega
          have hkn' : 0 < n := by omega
          clear hl
          have LS := Lib.hid LS
          have AT := Lib.hid AT
          have NX := Lib.hid NX
          have PV := Lib.hid PV
          simp only [atC, chC] at AT NX PV
          clear h0 ha hb hc hx
          have C0 := Lib.hid (show ∀ W, Below w.heap.size w W → Below wr.heap.size wr W → W.cell? ⟨w.heap.size, i, none⟩ = some (.int .i64 t) from fun W _ h => (h.cell (p := ⟨w.heap.size, i, none⟩) (cell_lt x0)).trans x0)
          have XI := Lib.hid x0
          repeat (first
            | (go_at_call 20; refine (LS.out _ K.out).mono ?_; rintro x w6 ⟨rfl, k6⟩; have J6 := Lib.hid k6; have x0 := C0.out _ (bthen K.out k6) k6; clear k6; simp only [])
            | (go_at_call 21; refine (AT.out _ (bthen K.out J6.out)).mono ?_; rintro x w7 ⟨rfl, k7⟩; have P7 := Lib.hid (BlkN.make (bthen J6.out k7) #[.int .i64 xo, .bool xd, .string ⟨xa.toArray⟩] 41); have x0 := C0.out _ (bthen K.out P7.out.bel) P7.out.bel; clear k7; simp only [])
            | (go_at_call 22; refine (NX.out _ (bthen K.out P7.out.bel)).mono ?_; rintro x w8 ⟨rfl, k8⟩; have P7b := Lib.hid ((P7.out.next k8).more (.cells #[.int .i64 0, .int .i64 0, .bool false, .string ⟨#[]⟩] 71)); have P8 := Lib.hid (BlkN.make (bthen P7.out.bel k8) #[.int .i64 0, .int .i64 0, .bool false, .string ⟨#[]⟩] 71); have x0 := C0.out _ (bthen K.out P8.out.bel) P8.out.bel; clear k8; simp only [])
            | (go_at_call 23; refine (PV.out _ (bthen K.out P8.out.bel)).mono ?_; rintro x w9 ⟨rfl, k9⟩; have P7c := Lib.hid ((P7b.out.next k9).more (.cells #[.int .i64 0, .int .i64 0, .bool false, .string ⟨#[]⟩] 71)); have P8b := Lib.hid ((P8.out.next k9).more (.cells #[.int .i64 0, .int .i64 0, .bool false, .string ⟨#[]⟩] 71)); have P9 := Lib.hid (BlkN.make (bthen P8.out.bel k9) #[.int .i64 0, .int .i64 0, .bool false, .string ⟨#[]⟩] 71); clear k9; simp only [])
            | go_values | go_skip | go_guarded | go_step | go_upon | go_back)
          obtain ⟨V, hV⟩ : ∃ V, (w9.alloc (.cells #[.int .i64 0, .int .i64 0, .bool false, .string ⟨#[]⟩] 71)) = V := ⟨_, rfl⟩
          simp only [hV] at P7c P8b P9 ⊢
          have J0 := Lib.hid P9.out.bel
          clear hV x0
          obtain ⟨a0, a1, a2⟩ := cel3 P7c.out.blk
          obtain ⟨b0, b1, b2, b3⟩ := cel4 P8b.out.blk
          obtain ⟨c0, c1, c2, c3⟩ := cel4 P9.out.blk
          obtain ⟨L, off, eL, hL, d0, d1, d2, d3⟩ := cc_cells (AA.out.next (bthen K.out P9.out.bel)) HX.out
          subst eL
          simp only at d0 d1 d2 d3
          simp only [Nat.zero_mul, Nat.add_zero] at d0 d1 d2 d3
          have KV := Lib.hid (bthen HK.out P9.out.bel)
          go_quiet (fail)
          repeat (first | go_values | go_skip | go_guarded | go_step | go_upon | go_back)
          go_quiet (fail)
          repeat (first | go_values | go_skip | go_guarded | go_step | go_upon | go_back)
          go_quiet (fail)
          repeat (first | go_values | go_skip | go_guarded | go_step | go_upon | go_back)
          go_roundw
          case rel => exact ⟨i + 1, by simp, by omega, below_drewN KV.out _⟩
          case measure => simp [intOf] <;> omega
        · rw [HN.out] at h0 
          rw [h0] at LS
          rw [ha] at AT
          rw [hb] at NX
          rw [hc] at PV
          have HX := Lib.hid hx
          obtain ⟨xt, xo, xd, xa⟩ := x
          have HZZ := Lib.hid hz
          obtain ⟨zt, zo, zd, za⟩ := z
          have hkz := (List.getElem?_eq_some_iff.1 hz).1
          rw [HN.out] at hkz
          have q6 : decide ((1 : Int) < (n : Int)) = true := decide_eq_true (by omega)
          have q7 : decide (1 < n) = true := decide_eq_true hkz
          have hkn : (0 : Int) < (n : Int) := by omega
          have hmn : (1 : Int) < (n : Int) := by omega
          have hkn' : 0 < n := by omega
          have hmn' : 1 < n := by omega
          clear hkz
          have LS := Lib.hid LS
          have AT := Lib.hid AT
          have NX := Lib.hid NX
          have PV := Lib.hid PV
          simp only [atC, chC] at AT NX PV
          clear h0 ha hb hc hx hz
          have C0 := Lib.hid (show ∀ W, Below w.heap.size w W → Below wr.heap.size wr W → W.cell? ⟨w.heap.size, i, none⟩ = some (.int .i64 t) from fun W _ h => (h.cell (p := ⟨w.heap.size, i, none⟩) (cell_lt x0)).trans x0)
          have XI := Lib.hid x0
          repeat (first
            | (go_at_call 20; refine (LS.out _ K.out).mono ?_; rintro x w6 ⟨rfl, k6⟩; have J6 := Lib.hid k6; have x0 := C0.out _ (bthen K.out k6) k6; clear k6; simp only [])
            | (go_at_call 21; refine (AT.out _ (bthen K.out J6.out)).mono ?_; rintro x w7 ⟨rfl, k7⟩; have P7 := Lib.hid (BlkN.make (bthen J6.out k7) #[.int .i64 xo, .bool xd, .string ⟨xa.toArray⟩] 41); have x0 := C0.out _ (bthen K.out P7.out.bel) P7.out.bel; clear k7; simp only [])
            | (go_at_call 22; refine (NX.out _ (bthen K.out P7.out.bel)).mono ?_; rintro x w8 ⟨rfl, k8⟩; have P7b := Lib.hid ((P7.out.next k8).more (.cells #[.int .i64 zt, .int .i64 zo, .bool zd, .string ⟨za.toArray⟩] 71)); have P8 := Lib.hid (BlkN.make (bthen P7.out.bel k8) #[.int .i64 zt, .int .i64 zo, .bool zd, .string ⟨za.toArray⟩] 71); have x0 := C0.out _ (bthen K.out P8.out.bel) P8.out.bel; clear k8; simp only [])
            | (go_at_call 23; refine (PV.out _ (bthen K.out P8.out.bel)).mono ?_; rintro x w9 ⟨rfl, k9⟩; have P7c := Lib.hid ((P7b.out.next k9).more (.cells #[.int .i64 0, .int .i64 0, .bool false, .string ⟨#[]⟩] 71)); have P8b := Lib.hid ((P8.out.next k9).more (.cells #[.int .i64 0, .int .i64 0, .bool false, .string ⟨#[]⟩] 71)); have P9 := Lib.hid (BlkN.make (bthen P8.out.bel k9) #[.int .i64 0, .int .i64 0, .bool false, .string ⟨#[]⟩] 71); clear k9; simp only [])
            | go_values | go_skip | go_guarded | go_step | go_upon | go_back)
          obtain ⟨V, hV⟩ : ∃ V, (w9.alloc (.cells #[.int .i64 0, .int .i64 0, .bool false, .string ⟨#[]⟩] 71)) = V := ⟨_, rfl⟩
          simp only [hV] at P7c P8b P9 ⊢
          have J0 := Lib.hid P9.out.bel
          clear hV x0
          obtain ⟨a0, a1, a2⟩ := cel3 P7c.out.blk
          obtain ⟨b0, b1, b2, b3⟩ := cel4 P8b.out.blk
          obtain ⟨c0, c1, c2, c3⟩ := cel4 P9.out.blk
          obtain ⟨L, off, eL, hL, d0, d1, d2, d3⟩ := cc_cells (AA.out.next (bthen K.out P9.out.bel)) HX.out
          subst eL
          simp only at d0 d1 d2 d3
          simp only [Nat.zero_mul, Nat.add_zero] at d0 d1 d2 d3
          obtain ⟨L2, off2, eL, hL2, e0, e1, e2, e3⟩ := cc_cells (AA.out.next (bthen K.out P9.out.bel)) HZZ.out
          cases eL
          simp only at e0 e1 e2 e3
          simp only [Nat.one_mul] at e0 e1 e2 e3
          have KV := Lib.hid (bthen HK.out P9.out.bel)
          go_quiet (fail)
          repeat (first | go_values | go_skip | go_guarded | go_step | go_upon | go_back)
          go_quiet (fail)
          repeat (first | go_values | go_skip | go_guarded | go_step | go_upon | go_back)
          go_quiet (fail)
          repeat (first | go_values | go_skip | go_guarded | go_step | go_upon | go_back)
          go_roundw
          case rel => exact ⟨i + 1, by simp, by omega, below_drewN KV.out _⟩
          case measure => simp [intOf] <;> omega
        · rw [HN.out] at h0 hl
          rw [h0] at LS
          rw [ha] at AT
          rw [hb] at NX
          rw [hc] at PV
          have HX := Lib.hid hx
          obtain ⟨xt, xo, xd, xa⟩ := x
          have q1 : decide ((k : Int) < 0) = false := decide_eq_false (by omega)
          have q2 : decide ((k : Int) ≥ 0) = true := decide_eq_true (by omega)
          have q3 : decide ((k : Int) > 0) = true := decide_eq_true (by omega)
          have q4 : decide ((0 : Int) < (k : Int)) = true := decide_eq_true (by omega)
          have q5 : decide (0 < k) = true := decide_eq_true hk
          have hw : IntKind.i64.wrap ((k : Int) + 1) = (n : Int) := by rw [IntWalk.i64_in _ (by have := H60.out; omega)]; omega
          have hkn : (k : Int) < (n : Int) := by omega
          clear hl hk
          have LS := Lib.hid LS
          have AT := Lib.hid AT
          have NX := Lib.hid NX
          have PV := Lib.hid PV
          simp only [atC, chC] at AT NX PV
          clear h0 ha hb hc hx
          have C0 := Lib.hid (show ∀ W, Below w.heap.size w W → Below wr.heap.size wr W → W.cell? ⟨w.heap.size, i, none⟩ = some (.int .i64 t) from fun W _ h => (h.cell (p := ⟨w.heap.size, i, none⟩) (cell_lt x0)).trans x0)
          have XI := Lib.hid x0
          repeat (first
            | (go_at_call 20; refine (LS.out _ K.out).mono ?_; rintro x w6 ⟨rfl, k6⟩; have J6 := Lib.hid k6; have x0 := C0.out _ (bthen K.out k6) k6; clear k6; simp only [])
            | (go_at_call 21; refine (AT.out _ (bthen K.out J6.out)).mono ?_; rintro x w7 ⟨rfl, k7⟩; have P7 := Lib.hid (BlkN.make (bthen J6.out k7) #[.int .i64 xo, .bool xd, .string ⟨xa.toArray⟩] 41); have x0 := C0.out _ (bthen K.out P7.out.bel) P7.out.bel; clear k7; simp only [])
            | (go_at_call 22; refine (NX.out _ (bthen K.out P7.out.bel)).mono ?_; rintro x w8 ⟨rfl, k8⟩; have P7b := Lib.hid ((P7.out.next k8).more (.cells #[.int .i64 0, .int .i64 0, .bool false, .string ⟨#[]⟩] 71)); have P8 := Lib.hid (BlkN.make (bthen P7.out.bel k8) #[.int .i64 0, .int .i64 0, .bool false, .string ⟨#[]⟩] 71); have x0 := C0.out _ (bthen K.out P8.out.bel) P8.out.bel; clear k8; simp only [])
            | (go_at_call 23; refine (PV.out _ (bthen K.out P8.out.bel)).mono ?_; rintro x w9 ⟨rfl, k9⟩; have P7c := Lib.hid ((P7b.out.next k9).more (.cells #[.int .i64 xt, .int .i64 xo, .bool xd, .string ⟨xa.toArray⟩] 71)); have P8b := Lib.hid ((P8.out.next k9).more (.cells #[.int .i64 xt, .int .i64 xo, .bool xd, .string ⟨xa.toArray⟩] 71)); have P9 := Lib.hid (BlkN.make (bthen P8.out.bel k9) #[.int .i64 xt, .int .i64 xo, .bool xd, .string ⟨xa.toArray⟩] 71); clear k9; simp only [])
            | go_values | go_skip | go_guarded | go_step | go_upon | go_back)
          obtain ⟨V, hV⟩ : ∃ V, (w9.alloc (.cells #[.int .i64 xt, .int .i64 xo, .bool xd, .string ⟨xa.toArray⟩] 71)) = V := ⟨_, rfl⟩
          simp only [hV] at P7c P8b P9 ⊢
          have J0 := Lib.hid P9.out.bel
          clear hV x0
          obtain ⟨a0, a1, a2⟩ := cel3 P7c.out.blk
          obtain ⟨b0, b1, b2, b3⟩ := cel4 P8b.out.blk
          obtain ⟨c0, c1, c2, c3⟩ := cel4 P9.out.blk
          obtain ⟨L, off, eL, hL, d0, d1, d2, d3⟩ := cc_cells (AA.out.next (bthen K.out P9.out.bel)) HX.out
          subst eL
          simp only at d0 d1 d2 d3
          have KV := Lib.hid (bthen HK.out P9.out.bel)
          go_quiet (fail)
          repeat (first | go_values | go_skip | go_guarded | go_step | go_upon | go_back)
          go_quiet (fail)
          repeat (first | go_values | go_skip | go_guarded | go_step | go_upon | go_back)
          go_quiet (fail)
          repeat (first | go_values | go_skip | go_guarded | go_step | go_upon | go_back)
          go_roundw
          case rel => exact ⟨i + 1, by simp, by omega, below_drewN KV.out _⟩
          case measure => simp [intOf] <;> omega
        · rw [HN.out] at h0 
          rw [h0] at LS
          rw [ha] at AT
          rw [hb] at NX
          rw [hc] at PV
          have HX := Lib.hid hx
          obtain ⟨xt, xo, xd, xa⟩ := x
          have HZZ := Lib.hid hz
          obtain ⟨zt, zo, zd, za⟩ := z
          have q1 : decide ((k : Int) < 0) = false := decide_eq_false (by omega)
          have q2 : decide ((k : Int) ≥ 0) = true := decide_eq_true (by omega)
          have q3 : decide ((k : Int) > 0) = true := decide_eq_true (by omega)
          have q4 : decide ((0 : Int) < (k : Int)) = true := decide_eq_true (by omega)
          have q5 : decide (0 < k) = true := decide_eq_true hk
          have hkz := (List.getElem?_eq_some_iff.1 hz).1
          rw [HN.out] at hkz
          obtain ⟨m, hm⟩ : ∃ m, k + 1 = m := ⟨_, rfl⟩
          rw [hm] at hz HZZ hkz
          have hw : IntKind.i64.wrap ((k : Int) + 1) = (m : Int) := by rw [IntWalk.i64_in _ (by have := H60.out; omega)]; omega
          have q6 : decide ((m : Int) < (n : Int)) = true := decide_eq_true (by omega)
          have q7 : decide (m < n) = true := decide_eq_true hkz
          have hkn : (k : Int) < (n : Int) := by omega
          have hmn : (m : Int) < (n : Int) := by omega
          clear hm hk hkz
          have LS := Lib.hid LS
          have AT := Lib.hid AT
          have NX := Lib.hid NX
          have PV := Lib.hid PV
          simp only [atC, chC] at AT NX PV
          clear h0 ha hb hc hx hz
          have C0 := Lib.hid (show ∀ W, Below w.heap.size w W → Below wr.heap.size wr W → W.cell? ⟨w.heap.size, i, none⟩ = some (.int .i64 t) from fun W _ h => (h.cell (p := ⟨w.heap.size, i, none⟩) (cell_lt x0)).trans x0)
          have XI := Lib.hid x0
          repeat (first
            | (go_at_call 20; refine (LS.out _ K.out).mono ?_; rintro x w6 ⟨rfl, k6⟩; have J6 := Lib.hid k6; have x0 := C0.out _ (bthen K.out k6) k6; clear k6; simp only [])
            | (go_at_call 21; refine (AT.out _ (bthen K.out J6.out)).mono ?_; rintro x w7 ⟨rfl, k7⟩; have P7 := Lib.hid (BlkN.make (bthen J6.out k7) #[.int .i64 xo, .bool xd, .string ⟨xa.toArray⟩] 41); have x0 := C0.out _ (bthen K.out P7.out.bel) P7.out.bel; clear k7; simp only [])
            | (go_at_call 22; refine (NX.out _ (bthen K.out P7.out.bel)).mono ?_; rintro x w8 ⟨rfl, k8⟩; have P7b := Lib.hid ((P7.out.next k8).more (.cells #[.int .i64 zt, .int .i64 zo, .bool zd, .string ⟨za.toArray⟩] 71)); have P8 := Lib.hid (BlkN.make (bthen P7.out.bel k8) #[.int .i64 zt, .int .i64 zo, .bool zd, .string ⟨za.toArray⟩] 71); have x0 := C0.out _ (bthen K.out P8.out.bel) P8.out.bel; clear k8; simp only [])
            | (go_at_call 23; refine (PV.out _ (bthen K.out P8.out.bel)).mono ?_; rintro x w9 ⟨rfl, k9⟩; have P7c := Lib.hid ((P7b.out.next k9).more (.cells #[.int .i64 xt, .int .i64 xo, .bool xd, .string ⟨xa.toArray⟩] 71)); have P8b := Lib.hid ((P8.out.next k9).more (.cells #[.int .i64 xt, .int .i64 xo, .bool xd, .string ⟨xa.toArray⟩] 71)); have P9 := Lib.hid (BlkN.make (bthen P8.out.bel k9) #[.int .i64 xt, .int .i64 xo, .bool xd, .string ⟨xa.toArray⟩] 71); clear k9; simp only [])
            | go_values | go_skip | go_guarded | go_step | go_upon | go_back)
          obtain ⟨V, hV⟩ : ∃ V, (w9.alloc (.cells #[.int .i64 xt, .int .i64 xo, .bool xd, .string ⟨xa.toArray⟩] 71)) = V := ⟨_, rfl⟩
          simp only [hV] at P7c P8b P9 ⊢
          have J0 := Lib.hid P9.out.bel
          clear hV x0
          obtain ⟨a0, a1, a2⟩ := cel3 P7c.out.blk
          obtain ⟨b0, b1, b2, b3⟩ := cel4 P8b.out.blk
          obtain ⟨c0, c1, c2, c3⟩ := cel4 P9.out.blk
          obtain ⟨L, off, eL, hL, d0, d1, d2, d3⟩ := cc_cells (AA.out.next (bthen K.out P9.out.bel)) HX.out
          subst eL
          simp only at d0 d1 d2 d3
          obtain ⟨L2, off2, eL, hL2, e0, e1, e2, e3⟩ := cc_cells (AA.out.next (bthen K.out P9.out.bel)) HZZ.out
          cases eL
          simp only at e0 e1 e2 e3
          have KV := Lib.hid (bthen HK.out P9.out.bel)
          go_quiet (fail)
          repeat (first | go_values | go_skip | go_guarded | go_step | go_upon | go_back)
          go_quiet (fail)
          repeat (first | go_values | go_skip | go_guarded | go_step | go_upon | go_back)
          go_quiet (fail)
          repeat (first | go_values | go_skip | go_guarded | go_step | go_upon | go_back)
          go_roundw
          case rel => exact ⟨i + 1, by simp, by omega, below_drewN KV.out _⟩
          case measure => simp [intOf] <;> omega
      · obtain rfl : i = 2 := by omega
        have hlt' : ¬ ((2 : Nat) : Int) < 2 := by omega
        have L0 := Lib.hid (fun W (k : Below w.heap.size w W) => rlast_is' A n c l p W (AA.out.next k) HN.out (by have := H60.out; omega))
        have CU := Lib.hid (fun W (k : Below w.heap.size w W) => tcut_is A n c l p q W (AA.out.next k) HN.out (by have := H60.out; omega))
        obtain ⟨pr, hpr⟩ : ∃ pr : CV → Bool, (fun x : CV => decide (p < x.t ∧ x.t ≤ q)) = pr := ⟨_, rfl⟩
        have HP := Lib.hid (fun x : CV => congrFun hpr x)
        obtain ⟨hd, hhd⟩ : ∃ hd : List CV, ((lasO l p).toList.map fun c => (⟨p, c.of, c.ds, c.ab⟩ : CV)) = hd := ⟨_, rfl⟩
        have CE : Hid (cutC l p q = hd ++ l.filter pr) := Lib.hid (by unfold cutC; rw [hhd, ← hpr])
        have HH : Hid (hd.length ≤ 1) := Lib.hid (by rw [← hhd]; cases lasO l p <;> simp)
        have CL : Hid ((cutC l p q).length ≤ 100) := Lib.hid (by
          rw [CE.out, List.length_append]
          have e1 := List.length_filter_le pr l
          have := HH.out
          have := HN.out
          have := H60.out
          omega)
        clear hpr
        obtain ⟨x0, x1⟩ := cel2 XR.out.blk
        have hwl := cell_lt x0
        by_cases hk0 : lasN l p n < 0
        · have HD : Hid (hd = []) := Lib.hid (by rw [← hhd, lasO_none (by rw [HN.out]; exact hk0)]; rfl)
          clear hhd
          generalize lasN l p n = kk at *
          repeat (first
            | (go_at_call 20; refine (L0.out _ K.out).mono ?_; rintro x w3 ⟨rfl, k3⟩; have J3 := Lib.hid k3; clear k3; simp only [])
            | go_values | go_skip | go_guarded | go_step | go_upon | go_back)
          have O0 : Hid (OwnV wr.heap.size (.slice none 0 0) hd w3) := Lib.hid (by rw [HD.out]; exact ⟨World.ownsRow_nil _ _ _ _, fun _ => rfl⟩)
          go_loopw [14, 16] (fun v u wl => ∃ i : Nat, u = .int .i64 (i : Int) ∧ i ≤ n ∧ OwnV wr.heap.size v (hd ++ (l.take i).filter pr) wl ∧ Below wr.heap.size wr wl) (fun _ u _ => n - (intOf u).toNat)
          case atStart => exact ⟨0, rfl, by omega, by rw [List.take_zero, List.filter_nil, List.append_nil]; exact O0.out, J3.out⟩
          case round =>
            rename_i v _
            obtain ⟨i, rfl, hi2, ho, hk2⟩ := hrel
            have HO := Lib.hid ho
            have KL := Lib.hid hk2
            clear ho hk2 O0
            by_cases hlt2 : i < n
            · have hlt3 : (i : Int) < (n : Int) := by omega
              obtain ⟨y, hy⟩ : ∃ y, l[i]? = some y := ⟨_, List.getElem?_eq_getElem (by rw [HN.out]; omega)⟩
              obtain ⟨x0, x1⟩ := cel2 (XR.out.next KL.out).blk
              obtain ⟨L9, off9, e9, hL9, z0, z1, z2, z3⟩ := cc_cells (AA.out.next (bthen K.out KL.out)) hy
              first | subst e9 | cases e9
              have HY := Lib.hid hy
              have HLN : Hid ((hd ++ (l.take i).filter pr).length ≤ 100) := Lib.hid (by
                rw [List.length_append]
                have e1 := List.length_filter_le pr (l.take i)
                have e2 := List.length_take_le i l
                have := HH.out
                have := H60.out
                omega)
              clear hy
              by_cases g1 : y.t > p
              · by_cases g2 : y.t ≤ q
                · have FY := Lib.hid (fil_yes (p := pr) HY.out (by rw [← HP.out y]; exact decide_eq_true ⟨g1, g2⟩))
                  repeat (first | go_values | go_skip | go_guarded | go_step | go_upon | go_back)
                  go_quiet (fail)
                  go_wp2_with (at_builtin; refine wpList_cpush (by rfl) _ _ rfl y ((HO.out.drewN nq).alloc _) rfl ⟨wr.heap.size, 0, none⟩ rfl (ch_new (wr.drewN nq) y 71) (Nat.le_trans HLN.out (by decide)) (by have := KL.out.size; simp; omega) ?_; intro v' w7 hown hbl; have O7 := Lib.hid hown; have J7 := Lib.hid ((bmk (below_drewN KL.out nq) _).trans hbl); clear hown hbl; simp only [])
                  go_roundw
                  case rel => exact ⟨i + 1, by simp, by omega, by rw [FY.out, ← List.append_assoc]; exact O7.out, J7.out⟩
                  case measure => simp [intOf] <;> omega
                · have FN := Lib.hid (fil_no (p := pr) HY.out (by rw [← HP.out y]; exact decide_eq_false fun h => g2 h.2))
                  repeat (first | go_values | go_skip | go_guarded | go_step | go_upon | go_back)
                  go_quiet (fail)
                  repeat (first | go_values | go_skip | go_guarded | go_step | go_upon | go_back)
                  go_roundw
                  case rel => exact ⟨i + 1, by simp, by omega, by rw [FN.out]; exact HO.out.drewN _, below_drewN KL.out _⟩
                  case measure => simp [intOf] <;> omega
              · have FN := Lib.hid (fil_no (p := pr) HY.out (by rw [← HP.out y]; exact decide_eq_false fun h => g1 h.1))
                repeat (first | go_values | go_skip | go_guarded | go_step | go_upon | go_back)
                go_quiet (fail)
                repeat (first | go_values | go_skip | go_guarded | go_step | go_upon | go_back)
                go_roundw
                case rel => exact ⟨i + 1, by simp, by omega, by rw [FN.out]; exact HO.out.drewN _, below_drewN KL.out _⟩
                case measure => simp [intOf] <;> omega
            · obtain rfl : i = n := by omega
              have hlt3 : ¬ ((i : Nat) : Int) < (i : Int) := by omega
              have TK : l.take i = l := List.take_of_length_le (by rw [HN.out]; omega)
              rw [TK, ← CE.out] at HO
              clear TK
              obtain ⟨A', c', rfl⟩ := HO.out.slice
              have RW := Lib.hid (own_c HO.out.1 rfl)
              obtain ⟨x0, x1⟩ := cel2 (XR.out.next KL.out).blk
              generalize cutC l p q = M at *
              have SM := Lib.hid (fun A B (a b : Nat) W (h1 : RowsAt 4 cC A M W) (h2 : RowsAt 4 cC B M W) => tsame_is A B _ _ a b _ _ true W h1 h2 rfl rfl (by have := CL.out; omega) (by have := CL.out; omega) (by simp))
              repeat (first
                | (go_at_call 25; refine (CU.out _ (bthen K.out KL.out)).mono ?_; rintro x w7 ⟨A7, c7, rfl, o7, k7⟩; have R7 := Lib.hid (own_c o7 rfl); have S7 := Lib.hid (RW.out.next k7); have J7 := Lib.hid (bthen KL.out k7); clear o7 k7; simp only [])
                | (go_at_call 24; refine (SM.out _ _ _ _ _ R7.out S7.out).mono ?_; rintro x w8 ⟨rfl, k8⟩; have J8 := Lib.hid (bthen J7.out k8); clear k8; simp only [])
                | (go_at_call 19; refine (AW.out _ (bthen K.out J8.out)).mono ?_; rintro x w9 ⟨rfl, k9⟩; have J9 := Lib.hid (bthen J8.out k9); clear k9; simp only [])
                | go_values | go_skip | go_guarded | go_step | go_upon | go_back)
              go_ret
              exact ⟨rfl, bthen K.out J9.out⟩
        · obtain ⟨k, x, hk, hkl, hx, ho⟩ := lasO_some (l := l) (t := p) (by rw [HN.out]; exact hk0)
          have HD : Hid (hd = [⟨p, x.of, x.ds, x.ab⟩]) := Lib.hid (by rw [← hhd, ho]; rfl)
          rw [HN.out] at hk hkl
          rw [hk] at L0
          have HX := Lib.hid hx
          have hkn : (k : Int) < (n : Int) := by omega
          have g1 : decide ((k : Int) ≥ 0) = true := decide_eq_true (by omega)
          have g2 : (0 : Int) ≤ (k : Int) := by omega
          clear hhd hk0 hk hx ho
          repeat (first
            | (go_at_call 20; refine (L0.out _ K.out).mono ?_; rintro x w5 ⟨rfl, k5⟩; have J5 := Lib.hid k5; have x0 := (k5.cell (p := ⟨w.heap.size, 0, none⟩) hwl).trans x0; obtain ⟨L, off, eL, hL, d0, d1, d2, d3⟩ := cc_cells (AA.out.next (bthen K.out k5)) HX.out; subst eL; clear k5; simp only [])
            | go_values | go_skip | go_guarded | go_step | go_upon | go_back)
          have b0 := bel_cell x0
          have b1 := bel_cell d1
          have b2 := bel_cell d2
          have b3 := bel_cell d3
          refine region_late 9 _ (.slice none 0 0) rfl mixed (by kernel_rfl) (.inl ⟨rfl, fun _ => rfl⟩) ?_
          simp only [List.take_succ_cons, List.take_zero, List.drop_succ_cons, List.drop_zero, Nat.reduceSub]
          repeat (with_reducible refine wpQuiet_step ?_; intro K hK; go_simp; (with_reducible refine hK _ ?_); clear hK K)
          with_reducible refine wpQuiet_nil ?_
          rintro w6 ⟨x6, hx6⟩
          have k6 : Below w5.heap.size w5 w6 := hx6 ▸ x6.k
          have J6 := Lib.hid (bthen J5.out k6)
          clear hx6 x6 k6 b0 b1 b2 b3
          go_wp2_with (at_builtin; refine wpList_cpush (by rfl) _ _ rfl (L := []) ⟨p, x.of, x.ds, x.ab⟩ ⟨World.ownsRow_nil _ wr.heap.size 71 4, fun _ => rfl⟩ rfl ⟨w6.heap.size, 0, none⟩ rfl (ch_new w6 ⟨p, x.of, x.ds, x.ab⟩ 71) (by simp) (by have := J6.out.size; simp; omega) ?_; intro v' w3 hown hbl; have O0 : Hid (OwnV wr.heap.size v' hd w3) := Lib.hid (by rw [HD.out]; exact hown); have J3 := Lib.hid ((bmk J6.out _).trans hbl); clear hown hbl; simp only [])
          simp only [calmQ]
          all_goals
            repeat (first | go_values | go_skip | go_guarded | go_step | go_upon | go_back)
            go_loopw [14, 16] (fun v u wl => ∃ i : Nat, u = .int .i64 (i : Int) ∧ i ≤ n ∧ OwnV wr.heap.size v (hd ++ (l.take i).filter pr) wl ∧ Below wr.heap.size wr wl) (fun _ u _ => n - (intOf u).toNat)
            case atStart => exact ⟨0, rfl, by omega, by rw [List.take_zero, List.filter_nil, List.append_nil]; exact O0.out, J3.out⟩
            case round =>
              rename_i v _
              obtain ⟨i, rfl, hi2, ho, hk2⟩ := hrel
              have HO := Lib.hid ho
              have KL := Lib.hid hk2
              clear ho hk2 O0
              by_cases hlt2 : i < n
              · have hlt3 : (i : Int) < (n : Int) := by omega
                obtain ⟨y, hy⟩ : ∃ y, l[i]? = some y := ⟨_, List.getElem?_eq_getElem (by rw [HN.out]; omega)⟩
                obtain ⟨x0, x1⟩ := cel2 (XR.out.next KL.out).blk
                obtain ⟨L9, off9, e9, hL9, z0, z1, z2, z3⟩ := cc_cells (AA.out.next (bthen K.out KL.out)) hy
                first | subst e9 | cases e9
                have HY := Lib.hid hy
                have HLN : Hid ((hd ++ (l.take i).filter pr).length ≤ 100) := Lib.hid (by
                  rw [List.length_append]
                  have e1 := List.length_filter_le pr (l.take i)
                  have e2 := List.length_take_le i l
                  have := HH.out
                  have := H60.out
                  omega)
                clear hy
                by_cases g1 : y.t > p
                · by_cases g2 : y.t ≤ q
                  · have FY := Lib.hid (fil_yes (p := pr) HY.out (by rw [← HP.out y]; exact decide_eq_true ⟨g1, g2⟩))
                    repeat (first | go_values | go_skip | go_guarded | go_step | go_upon | go_back)
                    go_quiet (fail)
                    go_wp2_with (at_builtin; refine wpList_cpush (by rfl) _ _ rfl y ((HO.out.drewN nq).alloc _) rfl ⟨wr.heap.size, 0, none⟩ rfl (ch_new (wr.drewN nq) y 71) (Nat.le_trans HLN.out (by decide)) (by have := KL.out.size; simp; omega) ?_; intro v' w7 hown hbl; have O7 := Lib.hid hown; have J7 := Lib.hid ((bmk (below_drewN KL.out nq) _).trans hbl); clear hown hbl; simp only [])
                    go_roundw
                    case rel => exact ⟨i + 1, by simp, by omega, by rw [FY.out, ← List.append_assoc]; exact O7.out, J7.out⟩
                    case measure => simp [intOf] <;> omega
                  · have FN := Lib.hid (fil_no (p := pr) HY.out (by rw [← HP.out y]; exact decide_eq_false fun h => g2 h.2))
                    repeat (first | go_values | go_skip | go_guarded | go_step | go_upon | go_back)
                    go_quiet (fail)
                    repeat (first | go_values | go_skip | go_guarded | go_step | go_upon | go_back)
                    go_roundw
                    case rel => exact ⟨i + 1, by simp, by omega, by rw [FN.out]; exact HO.out.drewN _, below_drewN KL.out _⟩
                    case measure => simp [intOf] <;> omega
                · have FN := Lib.hid (fil_no (p := pr) HY.out (by rw [← HP.out y]; exact decide_eq_false fun h => g1 h.1))
                  repeat (first | go_values | go_skip | go_guarded | go_step | go_upon | go_back)
                  go_quiet (fail)
                  repeat (first | go_values | go_skip | go_guarded | go_step | go_upon | go_back)
                  go_roundw
                  case rel => exact ⟨i + 1, by simp, by omega, by rw [FN.out]; exact HO.out.drewN _, below_drewN KL.out _⟩
                  case measure => simp [intOf] <;> omega
              · obtain rfl : i = n := by omega
                have hlt3 : ¬ ((i : Nat) : Int) < (i : Int) := by omega
                have TK : l.take i = l := List.take_of_length_le (by rw [HN.out]; omega)
                rw [TK, ← CE.out] at HO
                clear TK
                obtain ⟨A', c', rfl⟩ := HO.out.slice
                have RW := Lib.hid (own_c HO.out.1 rfl)
                obtain ⟨x0, x1⟩ := cel2 (XR.out.next KL.out).blk
                generalize cutC l p q = M at *
                have SM := Lib.hid (fun A B (a b : Nat) W (h1 : RowsAt 4 cC A M W) (h2 : RowsAt 4 cC B M W) => tsame_is A B _ _ a b _ _ true W h1 h2 rfl rfl (by have := CL.out; omega) (by have := CL.out; omega) (by simp))
                repeat (first
                  | (go_at_call 25; refine (CU.out _ (bthen K.out KL.out)).mono ?_; rintro x w7 ⟨A7, c7, rfl, o7, k7⟩; have R7 := Lib.hid (own_c o7 rfl); have S7 := Lib.hid (RW.out.next k7); have J7 := Lib.hid (bthen KL.out k7); clear o7 k7; simp only [])
                  | (go_at_call 24; refine (SM.out _ _ _ _ _ R7.out S7.out).mono ?_; rintro x w8 ⟨rfl, k8⟩; have J8 := Lib.hid (bthen J7.out k8); clear k8; simp only [])
                  | (go_at_call 19; refine (AW.out _ (bthen K.out J8.out)).mono ?_; rintro x w9 ⟨rfl, k9⟩; have J9 := Lib.hid (bthen J8.out k9); clear k9; simp only [])
                  | go_values | go_skip | go_guarded | go_step | go_upon | go_back)
                go_ret
                exact ⟨rfl, bthen K.out J9.out⟩
  · have RI := Lib.hid (fun W (k : Below w.heap.size w W) => rise_is A n c l false W (AA.out.next k) HN.out (by omega) (decide_eq_false hr).symm)
    go_enter Tryz.func5, Tryz.ntmps5
    repeat (first
      | (go_at_call 18; refine (RI.out _ X0.out.bel).mono ?_; rintro x w1 ⟨rfl, k1⟩; have X1 := Lib.hid (X0.out.next k1); clear k1 x0 x1; simp only [])
      | (go_at_call 19; refine (AW.out _ X1.out.bel).mono ?_; rintro x w2 ⟨rfl, k2⟩; simp only [])
      | go_values | go_skip | go_guarded | go_step | go_upon | go_back)
    go_ret
    exact ⟨rfl, bthen X1.out.bel k2⟩
end Go.Proofs.YtdmfgechoanmlaaGreatDoor

/- The walk of LinesShort: for all words it returns true, and nothing that was in memory changes. Written by wip/tools/genlnw.py. -/
import Derived.Test.YtfmehdophoejiaaGreatDoorMP
namespace Go.Proofs.YtfmehdophoejiaaGreatDoor
open Go Go.RowKit

set_option maxRecDepth 20000 in
set_option maxHeartbeats 1600000 in
theorem short_many (A : Option Addr) (n c : Nat) (ws : List (List UInt8)) (w : World) (H : LaidL w) (hn : ws.length = n) (hm : n ≤ maxLen) (hW : ArgW A ws w) (HF : Hid (fewB ws = false)) :
    Calls Tryz.prog 8 #[.slice A n c] w fun e w' => e = .returned (.bool true) ∧ Below w.heap.size w w' := by
  have HA := Lib.hid H
  have HN := Lib.hid hn
  have HW := Lib.hid hW
  have HMX : Hid (n ≤ 9223372036854775807) := Lib.hid hm
  clear H hn hW hm
  go_enter Tryz.func8, Tryz.ntmps8
  go_wp2_with (first
    | (go_at_call 18; refine (few_is A n c ws false _ HN.out HMX.out HW.out HF).mono ?_; rintro e w0 ⟨rfl, rfl⟩; simp only [])
    | (go_at_call 10; refine (lawake_any _ HA.out).mono ?_; rintro e w1 ⟨rfl, k1⟩; have K1 := Lib.hid k1; clear k1; simp only []))
  go_ret
  exact ⟨rfl, K1.out⟩

set_option maxRecDepth 20000 in
set_option maxHeartbeats 1600000 in
theorem short_few (A : Option Addr) (n c : Nat) (ws : List (List UInt8)) (w : World) (H : LaidL w) (hn : ws.length = n) (hm : n ≤ maxLen) (hW : ArgW A ws w) (HF : Hid (fewB ws = true)) (h4 : n < 4) :
    Calls Tryz.prog 8 #[.slice A n c] w fun e w' => e = .returned (.bool true) ∧ Below w.heap.size w w' := by
  have HA := Lib.hid H
  have HN := Lib.hid hn
  have HW := Lib.hid hW
  have HMX : Hid (n ≤ 9223372036854775807) := Lib.hid hm
  clear H hn hW hm
  have l4 : (n : Int) < 4 := by omega
  clear h4
  go_enter Tryz.func8, Tryz.ntmps8
  go_wp2_with (first
    | (go_at_call 18; refine (few_is A n c ws true _ HN.out HMX.out HW.out HF).mono ?_; rintro e w0 ⟨rfl, rfl⟩; simp only [])
    | (go_at_call 10; refine (lawake_any _ HA.out).mono ?_; rintro e w1 ⟨rfl, k1⟩; have K1 := Lib.hid k1; clear k1; simp only []))
  go_ret
  exact ⟨rfl, K1.out⟩

set_option maxRecDepth 20000 in
set_option maxHeartbeats 1600000 in
theorem short_long (A : Option Addr) (n c : Nat) (ws : List (List UInt8)) (w : World) (H : LaidL w) (hn : ws.length = n) (hm : n ≤ maxLen) (hW : ArgW A ws w) (HF : Hid (fewB ws = true)) (h6 : 6 < n) :
    Calls Tryz.prog 8 #[.slice A n c] w fun e w' => e = .returned (.bool true) ∧ Below w.heap.size w w' := by
  have HA := Lib.hid H
  have HN := Lib.hid hn
  have HW := Lib.hid hW
  have HMX : Hid (n ≤ 9223372036854775807) := Lib.hid hm
  clear H hn hW hm
  have l4 : ¬ (n : Int) < 4 := by omega
  have l6 : (6 : Int) < (n : Int) := by omega
  clear h6
  go_enter Tryz.func8, Tryz.ntmps8
  go_wp2_with (first
    | (go_at_call 18; refine (few_is A n c ws true _ HN.out HMX.out HW.out HF).mono ?_; rintro e w0 ⟨rfl, rfl⟩; simp only [])
    | (go_at_call 10; refine (lawake_any _ HA.out).mono ?_; rintro e w1 ⟨rfl, k1⟩; have K1 := Lib.hid k1; clear k1; simp only []))
  go_ret
  exact ⟨rfl, K1.out⟩

set_option maxRecDepth 20000 in
set_option maxHeartbeats 1600000 in
theorem short_4 (A : Option Addr) (c : Nat) (ws : List (List UInt8)) (w : World) (H : LaidL w) (hn : ws.length = 4) (hW : ArgW A ws w) (HF : Hid (fewB ws = true)) :
    Calls Tryz.prog 8 #[.slice A 4 c] w fun e w' => e = .returned (.bool true) ∧ Below w.heap.size w w' := by
  obtain ⟨L, off, rfl, hWc⟩ := hW.some (by omega)
  have WC := Lib.hid hWc
  obtain ⟨p0, hp0⟩ : ∃ p, ws[0]? = some p := ⟨_, List.getElem?_eq_getElem (by omega)⟩
  have LW : Hid (L < w.heap.size) := Lib.hid (wcell_lt (hWc 0 p0 hp0))
  have HL : Hid (∀ p ∈ ws, p.length ≤ 500) := Lib.hid fun p hp => Nat.le_trans ((few_yes HF.out).1 p hp) (by omega)
  obtain ⟨R, hR⟩ : ∃ R, erS ws = R := ⟨_, rfl⟩
  obtain ⟨v, hv⟩ : ∃ v, erX ws = v := ⟨_, rfl⟩
  have HE : Hid (erS ws = R ∧ erX ws = v) := Lib.hid ⟨hR, hv⟩
  have HE2 : Hid (erS (ws ++ [janL] ++ [oneL] ++ [oclL]) = R ∧ erX (ws ++ [janL] ++ [oneL] ++ [oclL]) = v) := Lib.hid (by have := short4 hn; rw [this.1, this.2]; exact ⟨hR, hv⟩)
  have HL2 : Hid (∀ p ∈ ws ++ [janL] ++ [oneL] ++ [oclL], p.length ≤ 500) := Lib.hid fun p hp => by
    simp only [List.mem_append, List.mem_singleton] at hp
    rcases hp with ((hp | rfl) | rfl) | rfl
    · exact HL.out p hp
    all_goals decide
  clear hp0 hR hv hWc
  have HA := Lib.hid H
  have HN := Lib.hid hn
  have HW := Lib.hid hW
  clear H hn hW
  have T1 : Hid True := Lib.hid trivial
  go_enter Tryz.func8, Tryz.ntmps8
  go_wp2_with (first
    | (go_at_call 18; refine (few_is _ 4 c ws true _ HN.out (by omega) HW.out HF).mono ?_; rintro e w0 ⟨rfl, rfl⟩; simp only [])
    | (go_at_call 21; have := T1.out; refine (lera_is _ 4 c ws _ HN.out HL.out HW.out HA.out R v HE).mono ?_; rintro e w1 ⟨rfl, k1⟩
       have K1 := Lib.hid k1
       clear k1 this T1
       simp only [evV])
    | (at_builtin; refine wpList_sapp rfl (.tmp 27) (.tmp 28) rfl (base := w1.heap.size + 1) (n := 0) (k := 4) (m := 4) (l := []) (ys := ws) HN.out rfl (World.ownsRow_nil _ _ _ _) rfl ⟨L, off, none⟩ rfl ?_ (by omega) (by simp) ?_
       · intro j p hp
         rw [show (⟨L, off, none⟩ : Addr).add j = ⟨L, off + j, none⟩ from Go.WideShapes.add_plain _ _ _]
         exact ((bmk K1.out _).cell (p := ⟨L, off + j, none⟩) LW.out).trans (WC.out j p hp)
       intro A0 c0 u0 own0 b0
       have BB : Hid (Below w.heap.size w u0) := Lib.hid ((bmk K1.out _).trans (b0.mono (by have := K1.out.size; omega)))
       have X := Lib.hid ((BlkN.make K1.out _ _).nextB b0 (by omega) (by have := K1.out.size; omega) (by simp))
       have SZ : Hid (w1.heap.size + 1 ≤ u0.heap.size) := Lib.hid (Nat.le_trans (by simp) b0.size)
       have OW := Lib.hid own0
       clear own0 b0
       simp only [])
    | (at_builtin; refine wpList_sapp rfl (.tmp 33) (.tmp 34) rfl (base := w1.heap.size + 1) (n := 4) (k := 1) (m := 5) (l := ws) (ys := [janL]) rfl rfl (OW.out.alloc _) rfl ⟨u0.heap.size, 0, none⟩ rfl ?_ (by omega) (by have := SZ.out; simp; omega) ?_
       · intro j p hp
         rcases j with _ | j
         · simp only [List.getElem?_cons_zero, Option.some.injEq] at hp; subst hp; simp [Addr.add, janL]
         · simp at hp
       intro A1 c1 u1 own1 b1
       have BB' : Hid (Below w.heap.size w u1) := Lib.hid ((bmk BB.out _).trans (b1.mono (by have := K1.out.size; omega)))
       have X' := Lib.hid ((X.out.more _).nextB b1 (by omega) (by have := K1.out.size; omega) (by have := SZ.out; simp; omega))
       have SZ' : Hid (w1.heap.size + 1 ≤ u1.heap.size) := Lib.hid (Nat.le_trans SZ.out (Nat.le_trans (by simp) b1.size))
       have OW' := Lib.hid own1
       clear own1 b1 X BB SZ OW
       have X := X'
       have BB := BB'
       have SZ := SZ'
       have OW := OW'
       clear X' BB' SZ' OW'
       simp only [])
    | (at_builtin; refine wpList_sapp rfl (.tmp 39) (.tmp 40) rfl (base := w1.heap.size + 1) (n := 5) (k := 1) (m := 6) (l := ws ++ [janL]) (ys := [oneL]) rfl rfl (OW.out.alloc _) rfl ⟨u1.heap.size, 0, none⟩ rfl ?_ (by omega) (by have := SZ.out; simp; omega) ?_
       · intro j p hp
         rcases j with _ | j
         · simp only [List.getElem?_cons_zero, Option.some.injEq] at hp; subst hp; simp [Addr.add, oneL]
         · simp at hp
       intro A2 c2 u2 own2 b2
       have BB' : Hid (Below w.heap.size w u2) := Lib.hid ((bmk BB.out _).trans (b2.mono (by have := K1.out.size; omega)))
       have X' := Lib.hid ((X.out.more _).nextB b2 (by omega) (by have := K1.out.size; omega) (by have := SZ.out; simp; omega))
       have SZ' : Hid (w1.heap.size + 1 ≤ u2.heap.size) := Lib.hid (Nat.le_trans SZ.out (Nat.le_trans (by simp) b2.size))
       have OW' := Lib.hid own2
       clear own2 b2 X BB SZ OW
       have X := X'
       have BB := BB'
       have SZ := SZ'
       have OW := OW'
       clear X' BB' SZ' OW'
       simp only [])
    | (at_builtin; refine wpList_sapp rfl (.tmp 42) (.tmp 43) rfl (base := w1.heap.size + 1) (n := 6) (k := 1) (m := 7) (l := ws ++ [janL] ++ [oneL]) (ys := [oclL]) rfl rfl (OW.out.alloc _) rfl ⟨u2.heap.size, 0, none⟩ rfl ?_ (by omega) (by have := SZ.out; simp; omega) ?_
       · intro j p hp
         rcases j with _ | j
         · simp only [List.getElem?_cons_zero, Option.some.injEq] at hp; subst hp; simp [Addr.add, oclL]
         · simp at hp
       intro A3 c3 u3 own3 b3
       have BB' : Hid (Below w.heap.size w u3) := Lib.hid ((bmk BB.out _).trans (b3.mono (by have := K1.out.size; omega)))
       have X' := Lib.hid ((X.out.more _).nextB b3 (by omega) (by have := K1.out.size; omega) (by have := SZ.out; simp; omega))
       have SZ' : Hid (w1.heap.size + 1 ≤ u3.heap.size) := Lib.hid (Nat.le_trans SZ.out (Nat.le_trans (by simp) b3.size))
       have OW' := Lib.hid own3
       clear own3 b3 X BB SZ OW
       have X := X'
       have BB := BB'
       have SZ := SZ'
       have OW := OW'
       clear X' BB' SZ' OW'
       simp only [])
    | (go_at_call 21; refine (lera_is A3 7 c3 (ws ++ [janL] ++ [oneL] ++ [oclL]) _ (own_arg OW.out).1 HL2.out (own_arg OW.out).2.2 (HA.out.next BB.out) R v HE2).mono ?_; rintro e w2 ⟨rfl, k2⟩
       have X2 := Lib.hid (X.out.next k2)
       have K2 := Lib.hid X2.out.bel
       clear k2 X
       have ec0 := X2.out.cell 0
       have ec1 := X2.out.cell 1
       have ec2 := X2.out.cell 2
       have ec3 := X2.out.cell 3
       have ec4 := X2.out.cell 4
       have ec5 := X2.out.cell 5
       have ec6 := X2.out.cell 6
       have ec7 := X2.out.cell 7
       have ec8 := X2.out.cell 8
       have ec9 := X2.out.cell 9
       have ec10 := X2.out.cell 10
       have ec11 := X2.out.cell 11
       have xlt := X2.out.lt
       simp only [List.getElem?_toArray, List.getElem?_cons_zero, List.getElem?_cons_succ] at ec0 ec1 ec2 ec3 ec4 ec5 ec6 ec7 ec8 ec9 ec10 ec11
       simp only [evV])
    | (go_at_call 10; refine (lawake_any _ (HA.out.next (bmk K2.out _))).mono ?_; rintro e w9 ⟨rfl, k9⟩; have K9 := Lib.hid (bthen (bmk K2.out _) k9); clear k9; simp only []))
  go_ret
  exact ⟨rfl, K9.out⟩

set_option maxRecDepth 20000 in
set_option maxHeartbeats 1600000 in
theorem short_5 (A : Option Addr) (c : Nat) (ws : List (List UInt8)) (w : World) (H : LaidL w) (hn : ws.length = 5) (hW : ArgW A ws w) (HF : Hid (fewB ws = true)) :
    Calls Tryz.prog 8 #[.slice A 5 c] w fun e w' => e = .returned (.bool true) ∧ Below w.heap.size w w' := by
  obtain ⟨L, off, rfl, hWc⟩ := hW.some (by omega)
  have WC := Lib.hid hWc
  obtain ⟨p0, hp0⟩ : ∃ p, ws[0]? = some p := ⟨_, List.getElem?_eq_getElem (by omega)⟩
  have LW : Hid (L < w.heap.size) := Lib.hid (wcell_lt (hWc 0 p0 hp0))
  have HL : Hid (∀ p ∈ ws, p.length ≤ 500) := Lib.hid fun p hp => Nat.le_trans ((few_yes HF.out).1 p hp) (by omega)
  obtain ⟨R, hR⟩ : ∃ R, erS ws = R := ⟨_, rfl⟩
  obtain ⟨v, hv⟩ : ∃ v, erX ws = v := ⟨_, rfl⟩
  have HE : Hid (erS ws = R ∧ erX ws = v) := Lib.hid ⟨hR, hv⟩
  have HE2 : Hid (erS (ws ++ [oneL] ++ [oclL]) = R ∧ erX (ws ++ [oneL] ++ [oclL]) = v) := Lib.hid (by have := short5 hn; rw [this.1, this.2]; exact ⟨hR, hv⟩)
  have HL2 : Hid (∀ p ∈ ws ++ [oneL] ++ [oclL], p.length ≤ 500) := Lib.hid fun p hp => by
    simp only [List.mem_append, List.mem_singleton] at hp
    rcases hp with (hp | rfl) | rfl
    · exact HL.out p hp
    all_goals decide
  clear hp0 hR hv hWc
  have HA := Lib.hid H
  have HN := Lib.hid hn
  have HW := Lib.hid hW
  clear H hn hW
  have T1 : Hid True := Lib.hid trivial
  go_enter Tryz.func8, Tryz.ntmps8
  go_wp2_with (first
    | (go_at_call 18; refine (few_is _ 5 c ws true _ HN.out (by omega) HW.out HF).mono ?_; rintro e w0 ⟨rfl, rfl⟩; simp only [])
    | (go_at_call 21; have := T1.out; refine (lera_is _ 5 c ws _ HN.out HL.out HW.out HA.out R v HE).mono ?_; rintro e w1 ⟨rfl, k1⟩
       have K1 := Lib.hid k1
       clear k1 this T1
       simp only [evV])
    | (at_builtin; refine wpList_sapp rfl (.tmp 27) (.tmp 28) rfl (base := w1.heap.size + 1) (n := 0) (k := 5) (m := 5) (l := []) (ys := ws) HN.out rfl (World.ownsRow_nil _ _ _ _) rfl ⟨L, off, none⟩ rfl ?_ (by omega) (by simp) ?_
       · intro j p hp
         rw [show (⟨L, off, none⟩ : Addr).add j = ⟨L, off + j, none⟩ from Go.WideShapes.add_plain _ _ _]
         exact ((bmk K1.out _).cell (p := ⟨L, off + j, none⟩) LW.out).trans (WC.out j p hp)
       intro A0 c0 u0 own0 b0
       have BB : Hid (Below w.heap.size w u0) := Lib.hid ((bmk K1.out _).trans (b0.mono (by have := K1.out.size; omega)))
       have X := Lib.hid ((BlkN.make K1.out _ _).nextB b0 (by omega) (by have := K1.out.size; omega) (by simp))
       have SZ : Hid (w1.heap.size + 1 ≤ u0.heap.size) := Lib.hid (Nat.le_trans (by simp) b0.size)
       have OW := Lib.hid own0
       clear own0 b0
       simp only [])
    | (at_builtin; refine wpList_sapp rfl (.tmp 39) (.tmp 40) rfl (base := w1.heap.size + 1) (n := 5) (k := 1) (m := 6) (l := ws) (ys := [oneL]) rfl rfl (OW.out.alloc _) rfl ⟨u0.heap.size, 0, none⟩ rfl ?_ (by omega) (by have := SZ.out; simp; omega) ?_
       · intro j p hp
         rcases j with _ | j
         · simp only [List.getElem?_cons_zero, Option.some.injEq] at hp; subst hp; simp [Addr.add, oneL]
         · simp at hp
       intro A1 c1 u1 own1 b1
       have BB' : Hid (Below w.heap.size w u1) := Lib.hid ((bmk BB.out _).trans (b1.mono (by have := K1.out.size; omega)))
       have X' := Lib.hid ((X.out.more _).nextB b1 (by omega) (by have := K1.out.size; omega) (by have := SZ.out; simp; omega))
       have SZ' : Hid (w1.heap.size + 1 ≤ u1.heap.size) := Lib.hid (Nat.le_trans SZ.out (Nat.le_trans (by simp) b1.size))
       have OW' := Lib.hid own1
       clear own1 b1 X BB SZ OW
       have X := X'
       have BB := BB'
       have SZ := SZ'
       have OW := OW'
       clear X' BB' SZ' OW'
       simp only [])
    | (at_builtin; refine wpList_sapp rfl (.tmp 42) (.tmp 43) rfl (base := w1.heap.size + 1) (n := 6) (k := 1) (m := 7) (l := ws ++ [oneL]) (ys := [oclL]) rfl rfl (OW.out.alloc _) rfl ⟨u1.heap.size, 0, none⟩ rfl ?_ (by omega) (by have := SZ.out; simp; omega) ?_
       · intro j p hp
         rcases j with _ | j
         · simp only [List.getElem?_cons_zero, Option.some.injEq] at hp; subst hp; simp [Addr.add, oclL]
         · simp at hp
       intro A2 c2 u2 own2 b2
       have BB' : Hid (Below w.heap.size w u2) := Lib.hid ((bmk BB.out _).trans (b2.mono (by have := K1.out.size; omega)))
       have X' := Lib.hid ((X.out.more _).nextB b2 (by omega) (by have := K1.out.size; omega) (by have := SZ.out; simp; omega))
       have SZ' : Hid (w1.heap.size + 1 ≤ u2.heap.size) := Lib.hid (Nat.le_trans SZ.out (Nat.le_trans (by simp) b2.size))
       have OW' := Lib.hid own2
       clear own2 b2 X BB SZ OW
       have X := X'
       have BB := BB'
       have SZ := SZ'
       have OW := OW'
       clear X' BB' SZ' OW'
       simp only [])
    | (go_at_call 21; refine (lera_is A2 7 c2 (ws ++ [oneL] ++ [oclL]) _ (own_arg OW.out).1 HL2.out (own_arg OW.out).2.2 (HA.out.next BB.out) R v HE2).mono ?_; rintro e w2 ⟨rfl, k2⟩
       have X2 := Lib.hid (X.out.next k2)
       have K2 := Lib.hid X2.out.bel
       clear k2 X
       have ec0 := X2.out.cell 0
       have ec1 := X2.out.cell 1
       have ec2 := X2.out.cell 2
       have ec3 := X2.out.cell 3
       have ec4 := X2.out.cell 4
       have ec5 := X2.out.cell 5
       have ec6 := X2.out.cell 6
       have ec7 := X2.out.cell 7
       have ec8 := X2.out.cell 8
       have ec9 := X2.out.cell 9
       have ec10 := X2.out.cell 10
       have ec11 := X2.out.cell 11
       have xlt := X2.out.lt
       simp only [List.getElem?_toArray, List.getElem?_cons_zero, List.getElem?_cons_succ] at ec0 ec1 ec2 ec3 ec4 ec5 ec6 ec7 ec8 ec9 ec10 ec11
       simp only [evV])
    | (go_at_call 10; refine (lawake_any _ (HA.out.next (bmk K2.out _))).mono ?_; rintro e w9 ⟨rfl, k9⟩; have K9 := Lib.hid (bthen (bmk K2.out _) k9); clear k9; simp only []))
  go_ret
  exact ⟨rfl, K9.out⟩

set_option maxRecDepth 20000 in
set_option maxHeartbeats 1600000 in
theorem short_6 (A : Option Addr) (c : Nat) (ws : List (List UInt8)) (w : World) (H : LaidL w) (hn : ws.length = 6) (hW : ArgW A ws w) (HF : Hid (fewB ws = true)) :
    Calls Tryz.prog 8 #[.slice A 6 c] w fun e w' => e = .returned (.bool true) ∧ Below w.heap.size w w' := by
  obtain ⟨L, off, rfl, hWc⟩ := hW.some (by omega)
  have WC := Lib.hid hWc
  obtain ⟨p0, hp0⟩ : ∃ p, ws[0]? = some p := ⟨_, List.getElem?_eq_getElem (by omega)⟩
  have LW : Hid (L < w.heap.size) := Lib.hid (wcell_lt (hWc 0 p0 hp0))
  have HL : Hid (∀ p ∈ ws, p.length ≤ 500) := Lib.hid fun p hp => Nat.le_trans ((few_yes HF.out).1 p hp) (by omega)
  obtain ⟨R, hR⟩ : ∃ R, erS ws = R := ⟨_, rfl⟩
  obtain ⟨v, hv⟩ : ∃ v, erX ws = v := ⟨_, rfl⟩
  have HE : Hid (erS ws = R ∧ erX ws = v) := Lib.hid ⟨hR, hv⟩
  have HE2 : Hid (erS (ws ++ [oclL]) = R ∧ erX (ws ++ [oclL]) = v) := Lib.hid (by have := short6 hn; rw [this.1, this.2]; exact ⟨hR, hv⟩)
  have HL2 : Hid (∀ p ∈ ws ++ [oclL], p.length ≤ 500) := Lib.hid fun p hp => by
    simp only [List.mem_append, List.mem_singleton] at hp
    rcases hp with hp | rfl
    · exact HL.out p hp
    all_goals decide
  clear hp0 hR hv hWc
  have HA := Lib.hid H
  have HN := Lib.hid hn
  have HW := Lib.hid hW
  clear H hn hW
  have T1 : Hid True := Lib.hid trivial
  go_enter Tryz.func8, Tryz.ntmps8
  go_wp2_with (first
    | (go_at_call 18; refine (few_is _ 6 c ws true _ HN.out (by omega) HW.out HF).mono ?_; rintro e w0 ⟨rfl, rfl⟩; simp only [])
    | (go_at_call 21; have := T1.out; refine (lera_is _ 6 c ws _ HN.out HL.out HW.out HA.out R v HE).mono ?_; rintro e w1 ⟨rfl, k1⟩
       have K1 := Lib.hid k1
       clear k1 this T1
       simp only [evV])
    | (at_builtin; refine wpList_sapp rfl (.tmp 27) (.tmp 28) rfl (base := w1.heap.size + 1) (n := 0) (k := 6) (m := 6) (l := []) (ys := ws) HN.out rfl (World.ownsRow_nil _ _ _ _) rfl ⟨L, off, none⟩ rfl ?_ (by omega) (by simp) ?_
       · intro j p hp
         rw [show (⟨L, off, none⟩ : Addr).add j = ⟨L, off + j, none⟩ from Go.WideShapes.add_plain _ _ _]
         exact ((bmk K1.out _).cell (p := ⟨L, off + j, none⟩) LW.out).trans (WC.out j p hp)
       intro A0 c0 u0 own0 b0
       have BB : Hid (Below w.heap.size w u0) := Lib.hid ((bmk K1.out _).trans (b0.mono (by have := K1.out.size; omega)))
       have X := Lib.hid ((BlkN.make K1.out _ _).nextB b0 (by omega) (by have := K1.out.size; omega) (by simp))
       have SZ : Hid (w1.heap.size + 1 ≤ u0.heap.size) := Lib.hid (Nat.le_trans (by simp) b0.size)
       have OW := Lib.hid own0
       clear own0 b0
       simp only [])
    | (at_builtin; refine wpList_sapp rfl (.tmp 42) (.tmp 43) rfl (base := w1.heap.size + 1) (n := 6) (k := 1) (m := 7) (l := ws) (ys := [oclL]) rfl rfl (OW.out.alloc _) rfl ⟨u0.heap.size, 0, none⟩ rfl ?_ (by omega) (by have := SZ.out; simp; omega) ?_
       · intro j p hp
         rcases j with _ | j
         · simp only [List.getElem?_cons_zero, Option.some.injEq] at hp; subst hp; simp [Addr.add, oclL]
         · simp at hp
       intro A1 c1 u1 own1 b1
       have BB' : Hid (Below w.heap.size w u1) := Lib.hid ((bmk BB.out _).trans (b1.mono (by have := K1.out.size; omega)))
       have X' := Lib.hid ((X.out.more _).nextB b1 (by omega) (by have := K1.out.size; omega) (by have := SZ.out; simp; omega))
       have SZ' : Hid (w1.heap.size + 1 ≤ u1.heap.size) := Lib.hid (Nat.le_trans SZ.out (Nat.le_trans (by simp) b1.size))
       have OW' := Lib.hid own1
       clear own1 b1 X BB SZ OW
       have X := X'
       have BB := BB'
       have SZ := SZ'
       have OW := OW'
       clear X' BB' SZ' OW'
       simp only [])
    | (go_at_call 21; refine (lera_is A1 7 c1 (ws ++ [oclL]) _ (own_arg OW.out).1 HL2.out (own_arg OW.out).2.2 (HA.out.next BB.out) R v HE2).mono ?_; rintro e w2 ⟨rfl, k2⟩
       have X2 := Lib.hid (X.out.next k2)
       have K2 := Lib.hid X2.out.bel
       clear k2 X
       have ec0 := X2.out.cell 0
       have ec1 := X2.out.cell 1
       have ec2 := X2.out.cell 2
       have ec3 := X2.out.cell 3
       have ec4 := X2.out.cell 4
       have ec5 := X2.out.cell 5
       have ec6 := X2.out.cell 6
       have ec7 := X2.out.cell 7
       have ec8 := X2.out.cell 8
       have ec9 := X2.out.cell 9
       have ec10 := X2.out.cell 10
       have ec11 := X2.out.cell 11
       have xlt := X2.out.lt
       simp only [List.getElem?_toArray, List.getElem?_cons_zero, List.getElem?_cons_succ] at ec0 ec1 ec2 ec3 ec4 ec5 ec6 ec7 ec8 ec9 ec10 ec11
       simp only [evV])
    | (go_at_call 10; refine (lawake_any _ (HA.out.next (bmk K2.out _))).mono ?_; rintro e w9 ⟨rfl, k9⟩; have K9 := Lib.hid (bthen (bmk K2.out _) k9); clear k9; simp only []))
  go_ret
  exact ⟨rfl, K9.out⟩

theorem linesShort_walk (A : Option Addr) (c : Nat) (ws : List (List UInt8)) (w : World) (H : LaidL w) (hm : ws.length ≤ maxLen) (_ : ws.length ≤ c) (hW : ArgW A ws w) :
    Calls Tryz.prog 8 #[.slice A ws.length c] w fun e w' => e = .returned (.bool true) ∧ Below w.heap.size w w' := by
  cases hf : fewB ws with
  | false => exact short_many A _ c ws w H rfl hm hW (Lib.hid hf)
  | true =>
    by_cases h4 : ws.length < 4
    · exact short_few A _ c ws w H rfl hm hW (Lib.hid hf) h4
    · by_cases h6 : 6 < ws.length
      · exact short_long A _ c ws w H rfl hm hW (Lib.hid hf) h6
      · rcases (show ws.length = 4 ∨ ws.length = 5 ∨ ws.length = 6 by omega) with h | h | h
        · rw [h]; exact short_4 A c ws w H h hW (Lib.hid hf)
        · rw [h]; exact short_5 A c ws w H h hW (Lib.hid hf)
        · rw [h]; exact short_6 A c ws w H h hW (Lib.hid hf)
end Go.Proofs.YtfmehdophoejiaaGreatDoor

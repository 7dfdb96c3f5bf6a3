/- The contracts of clock.mayBe, clock.Join and clock.Split: what they return, for every input; nothing that was in memory changes. The table of days ahead of months reads as it is laid. -/
import Derived.Test.YtjpppffgebecdaaGreatDoorCivD
import Derived.Test.YtjpppffgebecdaaGreatDoorDigR
import Derived.Test.YtjpppffgebecdaaGreatDoorDiv
namespace Go.Proofs.YtjpppffgebecdaaGreatDoor
open Go.RowKit

theorem mayBe_yes (n : Int) (w : World) (h1 : -604800 < n) (h2 : n < 604800) :
    Calls Tryz.prog 96 #[.int .i64 n] w fun e w' => e = .returned (.bool true) ∧ w = w' := by
  go_enter Tryz.func96, Tryz.ntmps96
  go_wp2
  go_ret
  exact ⟨rfl, rfl⟩
theorem mayBe_no (n : Int) (w : World) (h : ¬ (-604800 < n ∧ n < 604800)) :
    Calls Tryz.prog 96 #[.int .i64 n] w fun e w' => e = .returned (.bool false) ∧ w = w' := by
  by_cases h1 : -604800 < n
  · have h2 : ¬ n < 604800 := by omega
    go_enter Tryz.func96, Tryz.ntmps96
    go_wp2
    go_ret
    exact ⟨rfl, rfl⟩
  · go_enter Tryz.func96, Tryz.ntmps96
    go_wp2
    go_ret
    exact ⟨rfl, rfl⟩

theorem Join_yes (y m d n : Int) (w : World) (ht : AhAt w) (h : okD y m d) (h1 : -604800 < n) (h2 : n < 604800) :
    Calls Tryz.prog 67 #[.agg #[.int .i64 y, .int .i64 m, .int .i64 d], .int .i64 n] w fun e w' => e = .returned (.tuple #[.int .i64 (dayN y m d * 86400 + n), .int .i64 0]) ∧ Below w.heap.size w w' := by
  have T := Lib.hid (Boxed.new w y m d 83)
  have HT := Lib.hid (ht.next T.out.bel)
  have HO := Lib.hid h
  have hb := day_bd h
  have H1 : Hid (-604800 < n ∧ n < 604800) := ⟨h1, h2⟩
  clear ht h
  generalize hD : dayN y m d = D at hb
  have HD := Lib.hid hD
  clear hD
  go_enter Tryz.func67, Tryz.ntmps67
  go_wp2_with (first
    | (go_at_call 95; refine (Days_yes _ _ _ _ HT.out HO.out).mono ?_; rintro e w1 ⟨rfl, k1⟩
       rw [HD.out]
       have T1 := Lib.hid (T.out.next k1)
       clear T k1)
    | (go_at_call 96; refine (mayBe_yes _ _ H1.out.1 H1.out.2).mono ?_; rintro e w2 ⟨rfl, rfl⟩))
  go_ret2
  exact ⟨rfl, T1.out.bel⟩

theorem Join_no (y m d n : Int) (w : World) (ht : AhAt w) (h : ¬ okD y m d ∨ ¬ (-604800 < n ∧ n < 604800)) :
    Calls Tryz.prog 67 #[.agg #[.int .i64 y, .int .i64 m, .int .i64 d], .int .i64 n] w fun e w' => e = .returned (.tuple #[.int .i64 0, .int .i64 10]) ∧ Below w.heap.size w w' := by
  have T := Lib.hid (Boxed.new w y m d 83)
  have HT := Lib.hid (ht.next T.out.bel)
  clear ht
  by_cases ho : okD y m d
  · have HO := Lib.hid ho
    have H1 := Lib.hid (h.resolve_left (fun c => c ho))
    clear h ho
    generalize hD : dayN y m d = D
    have HD := Lib.hid hD
    clear hD
    go_enter Tryz.func67, Tryz.ntmps67
    go_wp2_with (first
      | (go_at_call 95; refine (Days_yes _ _ _ _ HT.out HO.out).mono ?_; rintro e w1 ⟨rfl, k1⟩
         have T1 := Lib.hid (T.out.next k1)
         clear T k1)
      | (go_at_call 96; refine (mayBe_no _ _ H1.out).mono ?_; rintro e w2 ⟨rfl, rfl⟩))
    go_ret2
    exact ⟨rfl, T1.out.bel⟩
  · have HO := Lib.hid ho
    clear h ho
    go_enter Tryz.func67, Tryz.ntmps67
    go_wp2_with (first
      | (go_at_call 95; refine (Days_no _ _ _ _ HT.out HO.out).mono ?_; rintro e w1 ⟨rfl, k1⟩
         have T1 := Lib.hid (T.out.next k1)
         clear T k1))
    go_ret2
    exact ⟨rfl, T1.out.bel⟩

theorem cdiv_is (n q : Int) (w : World) (h1 : -9223372036854775808 ≤ n) (h2 : n ≤ 9223372036854775807) (h : Hid (n / 86400 = q)) :
    Calls Tryz.prog 50 #[.int .i64 n, .int .i64 86400] w fun e w' => e = .returned (.tuple #[.int .i64 q, .int .i64 0]) ∧ w = w' := by
  have := div_any n 86400 w (by omega) h1 h2 (by omega)
  rwa [Int.fdiv_eq_ediv_of_nonneg _ (by omega), h.out] at this
theorem cmod_is (n r : Int) (w : World) (h : Hid (n % 86400 = r)) :
    Calls Tryz.prog 51 #[.int .i64 n, .int .i64 86400] w fun e w' => e = .returned (.tuple #[.int .i64 r, .int .i64 0]) ∧ w = w' := by
  have := mod_any n 86400 w (by omega) (by omega) (by omega)
  rwa [Int.fmod_eq_emod_of_nonneg _ (by omega), h.out] at this

/-- Three numbers lie in block g, which is new since w, and nothing that was in w has changed. -/
structure Blk3 (w : World) (g : Nat) (a b c : Int) (t : TypeId) (W : World) : Prop where
  bel : Below w.heap.size w W
  ge : w.heap.size ≤ g
  blk : W.heap[g]? = some (.cells #[.int .i64 a, .int .i64 b, .int .i64 c] t (0, 0))
theorem Blk3.new (w : World) (a b c : Int) (t : TypeId) : Blk3 w w.heap.size a b c t (w.alloc (.cells #[.int .i64 a, .int .i64 b, .int .i64 c] t)) := ⟨(Below.refl _ _).alloc (Nat.le_refl _) _, Nat.le_refl _, heap_alloc_new w _⟩
section
variable {w W W1 : World} {g : Nat} {a b c : Int} {t : TypeId}
theorem Blk3.lt (h : Blk3 w g a b c t W) : g < W.heap.size := (Array.getElem?_eq_some_iff.1 h.blk).1
theorem Blk3.next (h : Blk3 w g a b c t W) (k : Below W.heap.size W W1) : Blk3 w g a b c t W1 := ⟨h.bel.trans (k.mono h.bel.size), h.ge, (k.block g h.lt).trans h.blk⟩
theorem Blk3.more (h : Blk3 w g a b c t W) (o : Obj) : Blk3 w g a b c t (W.alloc o) := h.next ((Below.refl _ _).alloc (Nat.le_refl _) _)
theorem Blk3.c0 (h : Blk3 w g a b c t W) : W.cell? ⟨g, 0, none⟩ = some (.int .i64 a) := cell_of_row W g 0 _ _ (0, 0) h.blk
theorem Blk3.c1 (h : Blk3 w g a b c t W) : W.cell? ⟨g, 1, none⟩ = some (.int .i64 b) := cell_of_row W g 1 _ _ (0, 0) h.blk
theorem Blk3.c2 (h : Blk3 w g a b c t W) : W.cell? ⟨g, 2, none⟩ = some (.int .i64 c) := cell_of_row W g 2 _ _ (0, 0) h.blk
theorem Blk3.f0 (h : Blk3 w g a b c t W) : W.frozen? ⟨g, 0, none⟩ = false := by simp [World.frozen?, h.blk]
theorem Blk3.f1 (h : Blk3 w g a b c t W) : W.frozen? ⟨g, 1, none⟩ = false := by simp [World.frozen?, h.blk]
theorem Blk3.f2 (h : Blk3 w g a b c t W) : W.frozen? ⟨g, 2, none⟩ = false := by simp [World.frozen?, h.blk]
theorem blk_set {W : World} {g i : Nat} {cs : Array Value} {t : TypeId} (h : W.heap[g]? = some (.cells cs t (0, 0))) (v : Value) : (W.setCell ⟨g, i, none⟩ v).heap[g]? = some (.cells (cs.setIfInBounds i v) t (0, 0)) := by
  obtain ⟨hlt, hk⟩ := Array.getElem?_eq_some_iff.1 h
  show (W.heap.modify g _)[g]? = _
  rw [Array.getElem?_eq_getElem (by rw [Array.size_modify]; exact hlt), Array.getElem_modify_self, hk]
  simp
theorem Blk3.store (h : Blk3 w g a b c t W) (x y z : Int) : Blk3 w g x y z t (((W.setCell ⟨g, 0, none⟩ (.int .i64 x)).setCell ⟨g, 1, none⟩ (.int .i64 y)).setCell ⟨g, 2, none⟩ (.int .i64 z)) :=
  ⟨((h.bel.setCell (p := ⟨g, 0, none⟩) h.ge _).setCell (p := ⟨g, 1, none⟩) h.ge _).setCell (p := ⟨g, 2, none⟩) h.ge _, h.ge, by
    have := blk_set (i := 2) (blk_set (i := 1) (blk_set (i := 0) h.blk (.int .i64 x)) (.int .i64 y)) (.int .i64 z)
    simpa using this⟩
theorem Blk3.ret (h : Blk3 w g a b c t W) {P : Program} {f : Func} {Q : Ending → World → Prop} {A : Act} (k : ∀ W', Blk3 w g a b c t W' → bodyPost P f Q Exit.ret A W') : bodyPost P f Q Exit.ret A W := k W h
end

theorem Split_no (n q r : Int) (w : World) (h1 : -9223372036854775808 ≤ n) (h2 : n ≤ 9223372036854775807) (hq : Hid (n / 86400 = q)) (hr : Hid (n % 86400 = r)) (h : q < -37243778 ∨ 35805087 < q) :
    Calls Tryz.prog 28 #[.int .i64 n] w fun e w' => e = .returned (.tuple #[.agg #[.int .i64 0, .int .i64 0, .int .i64 0], .int .i64 0, .int .i64 10]) ∧ Below w.heap.size w w' := by
  have B := Lib.hid (Blk3.new w 0 0 0 83)
  have H := Lib.hid h
  clear h
  go_enter Tryz.func28, Tryz.ntmps28
  go_wp2_with (first
    | (go_at_call 50; refine (cdiv_is n q _ h1 h2 hq).mono ?_; rintro e w1 ⟨rfl, rfl⟩)
    | (go_at_call 51; refine (cmod_is n r _ hr).mono ?_; rintro e w1 ⟨rfl, rfl⟩)
    | (go_at_call 52; refine (Of_no q _ H.out).mono ?_; rintro e w1 ⟨rfl, k1⟩
       have B1 := Lib.hid (B.out.next k1)
       clear k1 B
       have lt := B1.out.lt
       have c0 := B1.out.c0
       have c1 := B1.out.c1
       have c2 := B1.out.c2
       have f0 := B1.out.f0
       have f1 := B1.out.f1
       have f2 := B1.out.f2))
  refine ((B1.out.store 0 0 0).more _).ret fun W' B2 => ?_
  clear lt c0 c1 c2 f0 f1 f2
  have c0 := B2.c0
  have c1 := B2.c1
  have c2 := B2.c2
  exact bodyPost_ret (v := .tuple #[.agg #[.int .i64 0, .int .i64 0, .int .i64 0], .int .i64 0, .int .i64 10]) (by simp [results, Tryz.results28, go_sem, c0, c1, c2]) rfl ⟨rfl, B2.bel⟩

/-- The date and the seconds of a second, that are there. -/
def SomeSplit (q r : Int) (w : World) (e : Ending) (w' : World) : Prop := ∃ y m d : Int, okD y m d ∧ dayN y m d = q ∧ e = .returned (.tuple #[.agg #[.int .i64 y, .int .i64 m, .int .i64 d], .int .i64 r, .int .i64 0]) ∧ Below w.heap.size w w'

theorem Split_yes (n q r : Int) (w : World) (ht : AhAt w) (h1 : -9223372036854775808 ≤ n) (h2 : n ≤ 9223372036854775807) (hq : Hid (n / 86400 = q)) (hr : Hid (n % 86400 = r)) (h3 : -37243778 ≤ q) (h4 : q ≤ 35805087) :
    Calls Tryz.prog 28 #[.int .i64 n] w (SomeSplit q r w) := by
  have B := Lib.hid (Blk3.new w 0 0 0 83)
  have HT := Lib.hid (ht.next ((Below.refl _ _).alloc (Nat.le_refl _) (.cells #[.int .i64 0, .int .i64 0, .int .i64 0] 83)))
  clear ht
  go_enter Tryz.func28, Tryz.ntmps28
  go_wp2_with (first
    | (go_at_call 50; refine (cdiv_is n q _ h1 h2 hq).mono ?_; rintro e w1 ⟨rfl, rfl⟩)
    | (go_at_call 51; refine (cmod_is n r _ hr).mono ?_; rintro e w1 ⟨rfl, rfl⟩)
    | (go_at_call 52; refine (Of_yes q _ HT.out h3 h4).mono ?_; rintro e w1 ⟨y, m, d, o1, o2, rfl, k1⟩
       have B1 := Lib.hid (B.out.next k1)
       have O1 := Lib.hid o1
       have O2 := Lib.hid o2
       clear k1 B o1 o2
       have lt := B1.out.lt
       have c0 := B1.out.c0
       have c1 := B1.out.c1
       have c2 := B1.out.c2
       have f0 := B1.out.f0
       have f1 := B1.out.f1
       have f2 := B1.out.f2))
  refine ((B1.out.store y m d).more _).ret fun W' B2 => ?_
  clear lt c0 c1 c2 f0 f1 f2
  have c0 := B2.c0
  have c1 := B2.c1
  have c2 := B2.c2
  exact bodyPost_ret (v := .tuple #[.agg #[.int .i64 y, .int .i64 m, .int .i64 d], .int .i64 r, .int .i64 0]) (by simp [results, Tryz.results28, go_sem, c0, c1, c2]) rfl ⟨y, m, d, O1.out, O2.out, rfl, B2.bel⟩
end Go.Proofs.YtjpppffgebecdaaGreatDoor

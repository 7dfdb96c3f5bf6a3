/- The contracts of the reference's Right and Next: what each call returns, for every date; nothing that was in memory changes.
The contracts of the reference's Next, Start and Days: what each call returns, for every date that there is; nothing that was in memory changes.
The contracts of the reference's Days and Of: what each call returns, for every date that there is, and every number; nothing that was in memory changes.
Plain facts on decimal digits, padded: what the reference's loop writes is what zeros ahead of the numeral are; no program is named.
The contracts of the reference's digits and Print: what each call returns; nothing that was in memory changes.
The contracts of clock.mayBe, clock.Join and clock.Split: what they return, for every input; nothing that was in memory changes. The table of days ahead of months reads as it is laid.
A block of the call's own, whole.
A rule, and rules in memory. -/
import Derived.Test.YtdmfgechoanmlaaGreatDoorMZA
import Derived.Lib.ItoaNum
import Derived.Laws.IdiomStrings
import Derived.Laws.Concat
namespace Go.Proofs.YtdmfgechoanmlaaGreatDoor
open Go.RowKit

theorem below_drewN {B : Nat} {a w : World} (h : Below B a w) (n : Nat) : Below B a (w.drewN n) := ⟨h.os, h.tape, h.output, h.size, h.block⟩

end Go.Proofs.YtdmfgechoanmlaaGreatDoor

namespace Go.Proofs.YtdmfgechoanmlaaGreatDoor
open Go.RowKit

theorem lp_bd (y : Int) : 0 ≤ lp y ∧ lp y ≤ 1 := by have := lp_01 y; omega
def NextTo (y m d : Int) (w : World) (e : Ending) (w' : World) : Prop := e = .returned (.agg #[.int .i64 y, .int .i64 m, .int .i64 d]) ∧ Below w.heap.size w w'

end Go.Proofs.YtdmfgechoanmlaaGreatDoor

namespace Go.Proofs.YtdmfgechoanmlaaGreatDoor
open Go.RowKit

def SomeRefDate (n : Int) (w : World) (e : Ending) (w' : World) : Prop := ∃ y m d : Int, okD y m d ∧ dayN y m d = n ∧ e = .returned (.tuple #[.agg #[.int .i64 y, .int .i64 m, .int .i64 d], .bool true]) ∧ Below w.heap.size w w'

theorem ny_up {y n : Int} (h : ny y ≤ n) (hn : n ≤ 35805087) : y ≤ 100000 := by
  have e2 : ny 100001 = 35805088 := by decide
  by_cases c : y ≤ 100000
  · exact c
  · have := ny_mono 100001 y (by omega); omega
theorem ny_dn {y n : Int} (h : n < ny y + 365 + lp y) (hn : -37243778 ≤ n) : -100000 ≤ y := by
  have e1 : ny (-100000) = -37243778 := by decide
  rw [← ny_succ] at h
  by_cases c : -100000 ≤ y
  · exact c
  · have := ny_mono (y + 1) (-100000) (by omega); omega

end Go.Proofs.YtdmfgechoanmlaaGreatDoor

namespace Go.Proofs.YtdmfgechoanmlaaGreatDoor
open Go

/-- The digits of n, l of them at least, zeros ahead; nothing of 0 where l is 0. -/
def pd (l n : Nat) : List UInt8 := if _h : n = 0 ∧ l = 0 then [] else pd (l - 1) (n / 10) ++ [UInt8.ofNat (48 + n % 10)]
termination_by n + l
decreasing_by omega

theorem pd_nil : pd 0 0 = [] := by rw [pd, dif_pos ⟨rfl, rfl⟩]
theorem pd_step {l n : Nat} (h : ¬ (n = 0 ∧ l = 0)) : pd l n = pd (l - 1) (n / 10) ++ [UInt8.ofNat (48 + n % 10)] := by rw [pd, dif_neg h]
theorem pd_zero (l : Nat) : pd l 0 = List.replicate l 48 := by
  induction l with
  | zero => exact pd_nil
  | succ l ih => rw [pd_step (by omega), Nat.add_sub_cancel, show 0 / 10 = 0 from rfl, ih, List.replicate_succ']; rfl

theorem pd_dec (n : Nat) : ∀ l : Nat, 1 ≤ n + l → pd l n = List.replicate (l - (Lib.decDigits n).length) 48 ++ Lib.decDigits n := by
  induction n using Nat.strongRecOn with
  | _ n ih =>
    intro l hl
    by_cases h : n < 10
    · rw [pd_step (by omega), show n / 10 = 0 by omega, pd_zero, Lib.decDigits_one h, Nat.mod_eq_of_lt h]; rfl
    · have e : Lib.decDigits n = Lib.decDigits (n / 10) ++ [UInt8.ofNat (48 + n % 10)] := by rw [Lib.decDigits, dif_neg h]
      rw [pd_step (by omega), ih (n / 10) (by omega) (l - 1) (by omega), e, List.length_append, List.append_assoc]
      congr 2
      simp only [List.length_singleton]; omega

theorem itoa_nat (n : Nat) : Lib.itoa (n : Int) = Lib.decDigits n := by unfold Lib.itoa; rw [if_neg (by omega)]; simp

theorem nd_le (n : Nat) (h : n < 10000000) : Lib.nDigits n ≤ 7 := by
  have h2 : ∀ k u : Nat, u < 10 ^ (k + 1) → Lib.nDigits u ≤ k + 1 := by
    intro k
    induction k with
    | zero => intro u hu; rw [Lib.nDigits_small (by simpa using hu)]; omega
    | succ k ih =>
      intro u hu
      by_cases c : u < 10
      · rw [Lib.nDigits_small c]; omega
      · rw [Lib.nDigits_big c]
        rw [Nat.pow_succ] at hu
        have := ih (u / 10) (by omega)
        omega
  exact h2 6 n (by omega)

theorem pd_len (l n : Nat) (h : 1 ≤ l) (hl : l ≤ 7) (hn : n < 10000000) : (pd l n).length ≤ 7 := by
  have := nd_le n hn
  rw [pd_dec n l (by omega), List.length_append, List.length_replicate, Lib.decDigits_length]
  omega
end Go.Proofs.YtdmfgechoanmlaaGreatDoor

namespace Go.Proofs.YtdmfgechoanmlaaGreatDoor
open Go.RowKit

def dgt (k : Nat) : UInt8 := UInt8.ofNat (48 + k % 10)
theorem digit_u8 (k : Nat) : ((dgt k).toNat : Int) = 48 + (k : Int) % 10 := by
  rw [dgt, UInt8.toNat_ofNat']; omega

theorem one_byte (W : World) (k : Nat) : (convert 181 9 (.slice (some ⟨W.heap.size, 0, none⟩) 1 1)).run Tryz.prog (W.alloc (.cells #[.int .u8 (48 + (k : Int) % 10)] 5)) = .ok (.string ⟨[dgt k].toArray⟩) (W.alloc (.cells #[.int .u8 (48 + (k : Int) % 10)] 5)) :=
  run_convert_bytes_back _ _ _ 5 ⟨W.heap.size, 0, none⟩ 1 [dgt k] Tryz.underlying181 Tryz.underlying5 Tryz.underlying9 (fun j hj => by
    obtain rfl : j = 0 := by simpa using hj
    rw [← digit_u8]; simp [Addr.add])

def strN (v : Value) : Nat := match v with | .string s => s.size | _ => 0
theorem strN_mk (x : List UInt8) : strN (.string ⟨x.toArray⟩) = x.length := by simp [strN, ByteArray.size]

theorem pd_next {l n k : Nat} {x : List UInt8} (h : pd l n = pd (l - x.length) k ++ x) (hk : ¬ (k = 0 ∧ l - x.length = 0)) : pd l n = pd (l - (dgt k :: x).length) (k / 10) ++ (dgt k :: x) := by
  rw [h, pd_step hk, List.append_assoc]
  congr 2

/-- The text of a date. -/
def dateL (y m d : Int) : List UInt8 := (if y < 0 then [45] else []) ++ pd 4 y.natAbs ++ [45] ++ pd 2 m.toNat ++ [45] ++ pd 2 d.toNat

theorem add_lists (x y : List UInt8) (hx : x.length ≤ 100) (hy : y.length ≤ 100) (W : World) : (Op.stringOp .add ⟨x.toArray⟩ ⟨y.toArray⟩).run Tryz.prog W = .ok (.string ⟨(x ++ y).toArray⟩) W :=
  run_string_add_lists W x y (by omega) (by omega)

/-- A date lies in block g, and nothing that was in w has changed. -/
structure Boxed (w : World) (g : Nat) (y m d : Int) (w' : World) : Prop where
  bel : Below w.heap.size w w'
  lt : g < w'.heap.size
  c0 : w'.cell? ⟨g, 0, none⟩ = some (.int .i64 y)
  c1 : w'.cell? ⟨g, 1, none⟩ = some (.int .i64 m)
  c2 : w'.cell? ⟨g, 2, none⟩ = some (.int .i64 d)
theorem Boxed.new (w : World) (y m d : Int) (t : TypeId) : Boxed w w.heap.size y m d (w.alloc (.cells #[.int .i64 y, .int .i64 m, .int .i64 d] t)) :=
  ⟨(Below.refl _ _).alloc (Nat.le_refl _) _, by simp, by simp, by simp, by simp⟩
theorem Boxed.next {w w' w2 : World} {g : Nat} {y m d : Int} (h : Boxed w g y m d w') (k : Below w'.heap.size w' w2) : Boxed w g y m d w2 :=
  ⟨h.bel.trans (k.mono h.bel.size), Nat.lt_of_lt_of_le h.lt k.size, by rw [k.cell h.lt]; exact h.c0, by rw [k.cell h.lt]; exact h.c1, by rw [k.cell h.lt]; exact h.c2⟩
theorem Boxed.drew {w w' : World} {g : Nat} {y m d : Int} (h : Boxed w g y m d w') : Boxed w g y m d w'.drew := ⟨h.bel.drew, h.lt, h.c0, h.c1, h.c2⟩

theorem dateL_nat (Y M D : Nat) : dateL Y M D = ([] : List UInt8) ++ pd 4 Y ++ [45] ++ pd 2 M ++ [45] ++ pd 2 D := by
  unfold dateL; rw [if_neg (by omega)]; simp
theorem dateL_neg (Y M D : Nat) (h : 0 < Y) : dateL (-(Y : Int)) M D = [45] ++ pd 4 Y ++ [45] ++ pd 2 M ++ [45] ++ pd 2 D := by
  unfold dateL; rw [if_pos (by omega)]; simp

end Go.Proofs.YtdmfgechoanmlaaGreatDoor

namespace Go.Proofs.YtdmfgechoanmlaaGreatDoor
open Go.RowKit

theorem mayBe_yes (n : Int) (w : World) (h1 : -604800 < n) (h2 : n < 604800) :
    Calls Tryz.prog 117 #[.int .i64 n] w fun e w' => e = .returned (.bool true) ∧ w = w' := by
  go_enter Tryz.func117, Tryz.ntmps117
  go_wp2
  go_ret
  exact ⟨rfl, rfl⟩
theorem mayBe_no (n : Int) (w : World) (h : ¬ (-604800 < n ∧ n < 604800)) :
    Calls Tryz.prog 117 #[.int .i64 n] w fun e w' => e = .returned (.bool false) ∧ w = w' := by
  by_cases h1 : -604800 < n
  · have h2 : ¬ n < 604800 := by omega
    go_enter Tryz.func117, Tryz.ntmps117
    go_wp2
    go_ret
    exact ⟨rfl, rfl⟩
  · go_enter Tryz.func117, Tryz.ntmps117
    go_wp2
    go_ret
    exact ⟨rfl, rfl⟩

theorem Join_yes (y m d n : Int) (w : World) (ht : AhAt w) (h : okD y m d) (h1 : -604800 < n) (h2 : n < 604800) :
    Calls Tryz.prog 93 #[.agg #[.int .i64 y, .int .i64 m, .int .i64 d], .int .i64 n] w fun e w' => e = .returned (.tuple #[.int .i64 (dayN y m d * 86400 + n), .int .i64 0]) ∧ Below w.heap.size w w' := by
  have T := Lib.hid (Boxed.new w y m d 167)
  have HT := Lib.hid (ht.next T.out.bel)
  have HO := Lib.hid h
  have hb := day_bd h
  have H1 : Hid (-604800 < n ∧ n < 604800) := ⟨h1, h2⟩
  clear ht h
  generalize hD : dayN y m d = D at hb
  have HD := Lib.hid hD
  clear hD
  go_enter Tryz.func93, Tryz.ntmps93
  go_wp2_with (first
    | (go_at_call 116; refine (Days_yes _ _ _ _ HT.out HO.out).mono ?_; rintro e w1 ⟨rfl, k1⟩
       rw [HD.out]
       have T1 := Lib.hid (T.out.next k1)
       clear T k1)
    | (go_at_call 117; refine (mayBe_yes _ _ H1.out.1 H1.out.2).mono ?_; rintro e w2 ⟨rfl, rfl⟩))
  go_ret2
  exact ⟨rfl, T1.out.bel⟩

theorem Join_no (y m d n : Int) (w : World) (ht : AhAt w) (h : ¬ okD y m d ∨ ¬ (-604800 < n ∧ n < 604800)) :
    Calls Tryz.prog 93 #[.agg #[.int .i64 y, .int .i64 m, .int .i64 d], .int .i64 n] w fun e w' => e = .returned (.tuple #[.int .i64 0, .int .i64 10]) ∧ Below w.heap.size w w' := by
  have T := Lib.hid (Boxed.new w y m d 167)
  have HT := Lib.hid (ht.next T.out.bel)
  clear ht
  by_cases ho : okD y m d
  · have HO := Lib.hid ho
    have H1 := Lib.hid (h.resolve_left (fun c => c ho))
    clear h ho
    generalize hD : dayN y m d = D
    have HD := Lib.hid hD
    clear hD
    go_enter Tryz.func93, Tryz.ntmps93
    go_wp2_with (first
      | (go_at_call 116; refine (Days_yes _ _ _ _ HT.out HO.out).mono ?_; rintro e w1 ⟨rfl, k1⟩
         have T1 := Lib.hid (T.out.next k1)
         clear T k1)
      | (go_at_call 117; refine (mayBe_no _ _ H1.out).mono ?_; rintro e w2 ⟨rfl, rfl⟩))
    go_ret2
    exact ⟨rfl, T1.out.bel⟩
  · have HO := Lib.hid ho
    clear h ho
    go_enter Tryz.func93, Tryz.ntmps93
    go_wp2_with (first
      | (go_at_call 116; refine (Days_no _ _ _ _ HT.out HO.out).mono ?_; rintro e w1 ⟨rfl, k1⟩
         have T1 := Lib.hid (T.out.next k1)
         clear T k1))
    go_ret2
    exact ⟨rfl, T1.out.bel⟩

theorem cdiv_is (n q : Int) (w : World) (h1 : -9223372036854775808 ≤ n) (h2 : n ≤ 9223372036854775807) (h : Hid (n / 86400 = q)) :
    Calls Tryz.prog 157 #[.int .i64 n, .int .i64 86400] w fun e w' => e = .returned (.tuple #[.int .i64 q, .int .i64 0]) ∧ w = w' := by
  have := div_any n 86400 w (by omega) h1 h2 (by omega)
  rwa [Int.fdiv_eq_ediv_of_nonneg _ (by omega), h.out] at this
theorem cmod_is (n r : Int) (w : World) (h : Hid (n % 86400 = r)) :
    Calls Tryz.prog 158 #[.int .i64 n, .int .i64 86400] w fun e w' => e = .returned (.tuple #[.int .i64 r, .int .i64 0]) ∧ w = w' := by
  have := mod_any n 86400 w (by omega) (by omega) (by omega)
  rwa [Int.fmod_eq_emod_of_nonneg _ (by omega), h.out] at this

/-- Three numbers lie in block g, which is new since w, and nothing that was in w has changed. -/
structure Blk3 (w : World) (g : Nat) (a b c : Int) (t : TypeId) (W : World) : Prop where
  bel : Below w.heap.size w W
  ge : w.heap.size ≤ g
  blk : W.heap[g]? = some (.cells #[.int .i64 a, .int .i64 b, .int .i64 c] t (0, 0))
theorem Blk3.new (w : World) (a b c : Int) (t : TypeId) : Blk3 w w.heap.size a b c t (w.alloc (.cells #[.int .i64 a, .int .i64 b, .int .i64 c] t)) := ⟨(Below.refl _ _).alloc (Nat.le_refl _) _, Nat.le_refl _, heap_alloc_new w _⟩
section
variable {w W W1 : World} {g : Nat} {a b c : Int} {t : TypeId}
theorem Blk3.lt (h : Blk3 w g a b c t W) : g < W.heap.size := (Array.getElem?_eq_some_iff.1 h.blk).1
theorem Blk3.next (h : Blk3 w g a b c t W) (k : Below W.heap.size W W1) : Blk3 w g a b c t W1 := ⟨h.bel.trans (k.mono h.bel.size), h.ge, (k.block g h.lt).trans h.blk⟩
theorem Blk3.more (h : Blk3 w g a b c t W) (o : Obj) : Blk3 w g a b c t (W.alloc o) := h.next ((Below.refl _ _).alloc (Nat.le_refl _) _)
theorem Blk3.c0 (h : Blk3 w g a b c t W) : W.cell? ⟨g, 0, none⟩ = some (.int .i64 a) := cell_of_row W g 0 _ _ (0, 0) h.blk
theorem Blk3.c1 (h : Blk3 w g a b c t W) : W.cell? ⟨g, 1, none⟩ = some (.int .i64 b) := cell_of_row W g 1 _ _ (0, 0) h.blk
theorem Blk3.c2 (h : Blk3 w g a b c t W) : W.cell? ⟨g, 2, none⟩ = some (.int .i64 c) := cell_of_row W g 2 _ _ (0, 0) h.blk
theorem Blk3.f0 (h : Blk3 w g a b c t W) : W.frozen? ⟨g, 0, none⟩ = false := by simp [World.frozen?, h.blk]
theorem Blk3.f1 (h : Blk3 w g a b c t W) : W.frozen? ⟨g, 1, none⟩ = false := by simp [World.frozen?, h.blk]
theorem Blk3.f2 (h : Blk3 w g a b c t W) : W.frozen? ⟨g, 2, none⟩ = false := by simp [World.frozen?, h.blk]
theorem blk_set {W : World} {g i : Nat} {cs : Array Value} {t : TypeId} (h : W.heap[g]? = some (.cells cs t (0, 0))) (v : Value) : (W.setCell ⟨g, i, none⟩ v).heap[g]? = some (.cells (cs.setIfInBounds i v) t (0, 0)) := by
  obtain ⟨hlt, hk⟩ := Array.getElem?_eq_some_iff.1 h
  show (W.heap.modify g _)[g]? = _
  rw [Array.getElem?_eq_getElem (by rw [Array.size_modify]; exact hlt), Array.getElem_modify_self, hk]
  simp
theorem Blk3.store (h : Blk3 w g a b c t W) (x y z : Int) : Blk3 w g x y z t (((W.setCell ⟨g, 0, none⟩ (.int .i64 x)).setCell ⟨g, 1, none⟩ (.int .i64 y)).setCell ⟨g, 2, none⟩ (.int .i64 z)) :=
  ⟨((h.bel.setCell (p := ⟨g, 0, none⟩) h.ge _).setCell (p := ⟨g, 1, none⟩) h.ge _).setCell (p := ⟨g, 2, none⟩) h.ge _, h.ge, by
    have := blk_set (i := 2) (blk_set (i := 1) (blk_set (i := 0) h.blk (.int .i64 x)) (.int .i64 y)) (.int .i64 z)
    simpa using this⟩
theorem Blk3.ret (h : Blk3 w g a b c t W) {P : Program} {f : Func} {Q : Ending → World → Prop} {A : Act} (k : ∀ W', Blk3 w g a b c t W' → bodyPost P f Q Exit.ret A W') : bodyPost P f Q Exit.ret A W := k W h
end

theorem Split_no (n q r : Int) (w : World) (h1 : -9223372036854775808 ≤ n) (h2 : n ≤ 9223372036854775807) (hq : Hid (n / 86400 = q)) (hr : Hid (n % 86400 = r)) (h : q < -37243778 ∨ 35805087 < q) :
    Calls Tryz.prog 140 #[.int .i64 n] w fun e w' => e = .returned (.tuple #[.agg #[.int .i64 0, .int .i64 0, .int .i64 0], .int .i64 0, .int .i64 10]) ∧ Below w.heap.size w w' := by
  have B := Lib.hid (Blk3.new w 0 0 0 167)
  have H := Lib.hid h
  clear h
  go_enter Tryz.func140, Tryz.ntmps140
  go_wp2_with (first
    | (go_at_call 157; refine (cdiv_is n q _ h1 h2 hq).mono ?_; rintro e w1 ⟨rfl, rfl⟩)
    | (go_at_call 158; refine (cmod_is n r _ hr).mono ?_; rintro e w1 ⟨rfl, rfl⟩)
    | (go_at_call 152; refine (Of_no q _ H.out).mono ?_; rintro e w1 ⟨rfl, k1⟩
       have B1 := Lib.hid (B.out.next k1)
       clear k1 B
       have lt := B1.out.lt
       have c0 := B1.out.c0
       have c1 := B1.out.c1
       have c2 := B1.out.c2
       have f0 := B1.out.f0
       have f1 := B1.out.f1
       have f2 := B1.out.f2))
  refine ((B1.out.store 0 0 0).more _).ret fun W' B2 => ?_
  clear lt c0 c1 c2 f0 f1 f2
  have c0 := B2.c0
  have c1 := B2.c1
  have c2 := B2.c2
  exact bodyPost_ret (v := .tuple #[.agg #[.int .i64 0, .int .i64 0, .int .i64 0], .int .i64 0, .int .i64 10]) (by simp [results, Tryz.results140, go_sem, c0, c1, c2]) rfl ⟨rfl, B2.bel⟩

/-- The date and the seconds of a second, that are there. -/
def SomeSplit (q r : Int) (w : World) (e : Ending) (w' : World) : Prop := ∃ y m d : Int, okD y m d ∧ dayN y m d = q ∧ e = .returned (.tuple #[.agg #[.int .i64 y, .int .i64 m, .int .i64 d], .int .i64 r, .int .i64 0]) ∧ Below w.heap.size w w'

theorem Split_yes (n q r : Int) (w : World) (ht : AhAt w) (h1 : -9223372036854775808 ≤ n) (h2 : n ≤ 9223372036854775807) (hq : Hid (n / 86400 = q)) (hr : Hid (n % 86400 = r)) (h3 : -37243778 ≤ q) (h4 : q ≤ 35805087) :
    Calls Tryz.prog 140 #[.int .i64 n] w (SomeSplit q r w) := by
  have B := Lib.hid (Blk3.new w 0 0 0 167)
  have HT := Lib.hid (ht.next ((Below.refl _ _).alloc (Nat.le_refl _) (.cells #[.int .i64 0, .int .i64 0, .int .i64 0] 167)))
  clear ht
  go_enter Tryz.func140, Tryz.ntmps140
  go_wp2_with (first
    | (go_at_call 157; refine (cdiv_is n q _ h1 h2 hq).mono ?_; rintro e w1 ⟨rfl, rfl⟩)
    | (go_at_call 158; refine (cmod_is n r _ hr).mono ?_; rintro e w1 ⟨rfl, rfl⟩)
    | (go_at_call 152; refine (Of_yes q _ HT.out h3 h4).mono ?_; rintro e w1 ⟨y, m, d, o1, o2, rfl, k1⟩
       have B1 := Lib.hid (B.out.next k1)
       have O1 := Lib.hid o1
       have O2 := Lib.hid o2
       clear k1 B o1 o2
       have lt := B1.out.lt
       have c0 := B1.out.c0
       have c1 := B1.out.c1
       have c2 := B1.out.c2
       have f0 := B1.out.f0
       have f1 := B1.out.f1
       have f2 := B1.out.f2))
  refine ((B1.out.store y m d).more _).ret fun W' B2 => ?_
  clear lt c0 c1 c2 f0 f1 f2
  have c0 := B2.c0
  have c1 := B2.c1
  have c2 := B2.c2
  exact bodyPost_ret (v := .tuple #[.agg #[.int .i64 y, .int .i64 m, .int .i64 d], .int .i64 r, .int .i64 0]) (by simp [results, Tryz.results140, go_sem, c0, c1, c2]) rfl ⟨y, m, d, O1.out, O2.out, rfl, B2.bel⟩
end Go.Proofs.YtdmfgechoanmlaaGreatDoor

namespace Go.Proofs.YtdmfgechoanmlaaGreatDoor
open Go Go.RowKit

/-- A block of the call's own, whole. -/
structure BlkN (w : World) (g : Nat) (C : Array Value) (t : TypeId) (W : World) : Prop where
  bel : Below w.heap.size w W
  ge : w.heap.size ≤ g
  blk : W.heap[g]? = some (.cells C t (0, 0))
section
variable {w W W1 : World} {g : Nat} {C : Array Value} {t : TypeId}
theorem BlkN.make (h : Below w.heap.size w W) (C : Array Value) (t : TypeId) : BlkN w W.heap.size C t (W.alloc (.cells C t)) := ⟨h.alloc h.size _, h.size, heap_alloc_new W _⟩
theorem BlkN.lt (h : BlkN w g C t W) : g < W.heap.size := (Array.getElem?_eq_some_iff.1 h.blk).1
theorem BlkN.next (h : BlkN w g C t W) (k : Below W.heap.size W W1) : BlkN w g C t W1 := ⟨h.bel.trans (k.mono h.bel.size), h.ge, (k.block g h.lt).trans h.blk⟩
theorem BlkN.more (h : BlkN w g C t W) (o : Obj) : BlkN w g C t (W.alloc o) := h.next ((Below.refl _ _).alloc (Nat.le_refl _) _)
theorem BlkN.drew (h : BlkN w g C t W) : BlkN w g C t W.drew := ⟨⟨h.bel.os, h.bel.tape, h.bel.output, h.bel.size, h.bel.block⟩, h.ge, h.blk⟩
theorem BlkN.cell (h : BlkN w g C t W) (j : Nat) : W.cell? ⟨g, j, none⟩ = C[j]? := cell_of_row W g j _ _ (0, 0) h.blk
end
theorem bmk {w W : World} (h : Below w.heap.size w W) (o : Obj) : Below w.heap.size w (W.alloc o) := h.alloc h.size o
theorem bthen {w W W' : World} (h : Below w.heap.size w W) (k : Below W.heap.size W W') : Below w.heap.size w W' := h.trans (k.mono h.size)
theorem bdrew {w W : World} (h : Below w.heap.size w W) : Below w.heap.size w W.drew := ⟨h.os, h.tape, h.output, h.size, h.block⟩
theorem cells11 {W : World} {g : Nat} {t : TypeId} {v0 v1 v2 v3 v4 v5 v6 v7 v8 v9 v10 : Value} (h : W.heap[g]? = some (.cells #[v0, v1, v2, v3, v4, v5, v6, v7, v8, v9, v10] t (0, 0))) :
    W.cell? ⟨g, 0, none⟩ = some v0 ∧ W.cell? ⟨g, 1, none⟩ = some v1 ∧ W.cell? ⟨g, 2, none⟩ = some v2 ∧ W.cell? ⟨g, 3, none⟩ = some v3 ∧ W.cell? ⟨g, 4, none⟩ = some v4 ∧ W.cell? ⟨g, 5, none⟩ = some v5 ∧ W.cell? ⟨g, 6, none⟩ = some v6 ∧ W.cell? ⟨g, 7, none⟩ = some v7 ∧ W.cell? ⟨g, 8, none⟩ = some v8 ∧ W.cell? ⟨g, 9, none⟩ = some v9 ∧ W.cell? ⟨g, 10, none⟩ = some v10 :=
  ⟨cell_of_row W g 0 _ _ _ h, cell_of_row W g 1 _ _ _ h, cell_of_row W g 2 _ _ _ h, cell_of_row W g 3 _ _ _ h, cell_of_row W g 4 _ _ _ h, cell_of_row W g 5 _ _ _ h, cell_of_row W g 6 _ _ _ h, cell_of_row W g 7 _ _ _ h, cell_of_row W g 8 _ _ _ h, cell_of_row W g 9 _ _ _ h, cell_of_row W g 10 _ _ _ h⟩

theorem frz {W : World} {g j : Nat} {C : Array Value} {t : TypeId} (h : W.heap[g]? = some (.cells C t (0, 0))) : W.frozen? ⟨g, j, none⟩ = false := by simp [World.frozen?, h]
theorem cel1 {W : World} {g : Nat} {t : TypeId} {v0 : Value} (h : W.heap[g]? = some (.cells #[v0] t (0, 0))) : W.cell? ⟨g, 0, none⟩ = some v0 := cell_of_row W g 0 _ _ _ h
theorem cel2 {W : World} {g : Nat} {t : TypeId} {v0 v1 : Value} (h : W.heap[g]? = some (.cells #[v0, v1] t (0, 0))) : W.cell? ⟨g, 0, none⟩ = some v0 ∧ W.cell? ⟨g, 1, none⟩ = some v1 := ⟨cell_of_row W g 0 _ _ _ h, cell_of_row W g 1 _ _ _ h⟩
theorem cel3 {W : World} {g : Nat} {t : TypeId} {v0 v1 v2 : Value} (h : W.heap[g]? = some (.cells #[v0, v1, v2] t (0, 0))) : W.cell? ⟨g, 0, none⟩ = some v0 ∧ W.cell? ⟨g, 1, none⟩ = some v1 ∧ W.cell? ⟨g, 2, none⟩ = some v2 := ⟨cell_of_row W g 0 _ _ _ h, cell_of_row W g 1 _ _ _ h, cell_of_row W g 2 _ _ _ h⟩
theorem cel4 {W : World} {g : Nat} {t : TypeId} {v0 v1 v2 v3 : Value} (h : W.heap[g]? = some (.cells #[v0, v1, v2, v3] t (0, 0))) : W.cell? ⟨g, 0, none⟩ = some v0 ∧ W.cell? ⟨g, 1, none⟩ = some v1 ∧ W.cell? ⟨g, 2, none⟩ = some v2 ∧ W.cell? ⟨g, 3, none⟩ = some v3 :=
  ⟨cell_of_row W g 0 _ _ _ h, cell_of_row W g 1 _ _ _ h, cell_of_row W g 2 _ _ _ h, cell_of_row W g 3 _ _ _ h⟩
theorem BlkN.set3 {w W : World} {g : Nat} {t : TypeId} {a b c x y z : Value} (h : BlkN w g #[a, b, c] t W) : BlkN w g #[x, y, z] t (((W.setCell ⟨g, 0, none⟩ x).setCell ⟨g, 1, none⟩ y).setCell ⟨g, 2, none⟩ z) :=
  ⟨((h.bel.setCell (p := ⟨g, 0, none⟩) h.ge _).setCell (p := ⟨g, 1, none⟩) h.ge _).setCell (p := ⟨g, 2, none⟩) h.ge _, h.ge, by
    have := blk_set (i := 2) (blk_set (i := 1) (blk_set (i := 0) h.blk x) y) z
    simpa using this⟩
theorem BlkN.set4 {w W : World} {g : Nat} {t : TypeId} {a b c d x y z u : Value} (h : BlkN w g #[a, b, c, d] t W) : BlkN w g #[x, y, z, u] t ((((W.setCell ⟨g, 0, none⟩ x).setCell ⟨g, 1, none⟩ y).setCell ⟨g, 2, none⟩ z).setCell ⟨g, 3, none⟩ u) :=
  ⟨(((h.bel.setCell (p := ⟨g, 0, none⟩) h.ge _).setCell (p := ⟨g, 1, none⟩) h.ge _).setCell (p := ⟨g, 2, none⟩) h.ge _).setCell (p := ⟨g, 3, none⟩) h.ge _, h.ge, by
    have := blk_set (i := 3) (blk_set (i := 2) (blk_set (i := 1) (blk_set (i := 0) h.blk x) y) z) u
    simpa using this⟩
theorem BlkN.ret {w W : World} {g : Nat} {t : TypeId} {C : Array Value} (h : BlkN w g C t W) {P : Program} {f : Func} {Q : Ending → World → Prop} {A : Act} {x : Exit} (k : ∀ W', BlkN w g C t W' → bodyPost P f Q x A W') : bodyPost P f Q x A W := k W h
theorem BlkN.two (w : World) (o : Obj) (C : Array Value) (t : TypeId) : BlkN w (w.heap.size + 1) C t ((w.alloc o).alloc (.cells C t)) := by
  have := BlkN.make ((Below.refl w.heap.size w).alloc (Nat.le_refl _) o) C t
  rwa [World.size_alloc] at this
/-- Two blocks of the call's own, the first one's cells known. -/
theorem BlkN.fst {w : World} (C : Array Value) (t : TypeId) (o : Obj) : BlkN w w.heap.size C t ((w.alloc (.cells C t)).alloc o) := (BlkN.make (Below.refl w.heap.size w) C t).more o
/-- Two blocks of the call's own: what lies in both, behind whatever call. -/
structure TwoB (w : World) (g1 : Nat) (C1 : Array Value) (t1 : TypeId) (g2 : Nat) (C2 : Array Value) (t2 : TypeId) (W : World) : Prop where
  a : BlkN w g1 C1 t1 W
  b : BlkN w g2 C2 t2 W
theorem TwoB.next {w W W1 : World} {g1 g2 : Nat} {C1 C2 : Array Value} {t1 t2 : TypeId} (h : TwoB w g1 C1 t1 g2 C2 t2 W) (k : Below W.heap.size W W1) : TwoB w g1 C1 t1 g2 C2 t2 W1 := ⟨h.a.next k, h.b.next k⟩
theorem TwoB.more {w W : World} {g1 g2 : Nat} {C1 C2 : Array Value} {t1 t2 : TypeId} (h : TwoB w g1 C1 t1 g2 C2 t2 W) (o : Obj) : TwoB w g1 C1 t1 g2 C2 t2 (W.alloc o) := ⟨h.a.more o, h.b.more o⟩
end Go.Proofs.YtdmfgechoanmlaaGreatDoor

namespace Go.Proofs.YtdmfgechoanmlaaGreatDoor
open Go Go.RowKit

structure RV where
  nm : List UInt8
  fr : Int
  tl : Int
  mo : Int
  dk : Int
  dw : Int
  dn : Int
  sc : Int
  ck : Int
  sv : Int
  lt : List UInt8
  deriving DecidableEq
def cR (r : RV) : Array Value := #[.string ⟨r.nm.toArray⟩, .int .i64 r.fr, .int .i64 r.tl, .int .i64 r.mo, .int .i64 r.dk, .int .i64 r.dw, .int .i64 r.dn, .int .i64 r.sc, .int .i64 r.ck, .int .i64 r.sv, .string ⟨r.lt.toArray⟩]
/-- The things xs, of c cells each, lie at the address. -/
def RowsAt {α : Type} (c : Nat) (f : α → Array Value) (A : Option Addr) (xs : List α) (w : World) : Prop :=
  ∀ i x, xs[i]? = some x → ∃ L off, A = some ⟨L, off, none⟩ ∧ L < w.heap.size ∧ ∀ j v, j < c → (f x)[j]? = some v → w.cell? ⟨L, off + i * c + j, none⟩ = some v
theorem RowsAt.next {α : Type} {c : Nat} {f : α → Array Value} {A : Option Addr} {xs : List α} {w w' : World} (h : RowsAt c f A xs w) (k : Below w.heap.size w w') : RowsAt c f A xs w' := fun i x hx => by
  obtain ⟨L, off, e, hl, hc⟩ := h i x hx
  exact ⟨L, off, e, Nat.lt_of_lt_of_le hl k.size, fun j v hj hv => (k.cell (p := ⟨L, off + i * c + j, none⟩) hl).trans (hc j v hj hv)⟩
/-- The cells of a rule, an era, a link, one by one. -/
theorem rule_cells {A : Option Addr} {rs : List RV} {w : World} {i : Nat} {r : RV} (h : RowsAt 11 cR A rs w) (hr : rs[i]? = some r) : ∃ L off, A = some ⟨L, off, none⟩ ∧ L < w.heap.size ∧
    (w.cell? ⟨L, off + i * 11, none⟩ = some (.string ⟨r.nm.toArray⟩) ∧ w.cell? ⟨L, off + i * 11 + 1, none⟩ = some (.int .i64 r.fr) ∧ w.cell? ⟨L, off + i * 11 + 2, none⟩ = some (.int .i64 r.tl) ∧ w.cell? ⟨L, off + i * 11 + 3, none⟩ = some (.int .i64 r.mo) ∧ w.cell? ⟨L, off + i * 11 + 4, none⟩ = some (.int .i64 r.dk) ∧ w.cell? ⟨L, off + i * 11 + 5, none⟩ = some (.int .i64 r.dw) ∧ w.cell? ⟨L, off + i * 11 + 6, none⟩ = some (.int .i64 r.dn) ∧ w.cell? ⟨L, off + i * 11 + 7, none⟩ = some (.int .i64 r.sc) ∧ w.cell? ⟨L, off + i * 11 + 8, none⟩ = some (.int .i64 r.ck) ∧ w.cell? ⟨L, off + i * 11 + 9, none⟩ = some (.int .i64 r.sv) ∧ w.cell? ⟨L, off + i * 11 + 10, none⟩ = some (.string ⟨r.lt.toArray⟩)) := by
  obtain ⟨L, off, e, hl, hc⟩ := h i r hr
  exact ⟨L, off, e, hl, hc 0 _ (by omega) rfl, hc 1 _ (by omega) rfl, hc 2 _ (by omega) rfl, hc 3 _ (by omega) rfl, hc 4 _ (by omega) rfl, hc 5 _ (by omega) rfl, hc 6 _ (by omega) rfl, hc 7 _ (by omega) rfl, hc 8 _ (by omega) rfl, hc 9 _ (by omega) rfl, hc 10 _ (by omega) rfl⟩
end Go.Proofs.YtdmfgechoanmlaaGreatDoor

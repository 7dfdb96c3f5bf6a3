/- The contracts of the reference's digits and Print: what each call returns; nothing that was in memory changes. -/
import Derived.Test.YtnedpflebkcdoaaDoorRefC
import Derived.Test.YtnedpflebkcdoaaDoorDig
import Derived.Laws.IdiomStrings
import Derived.Laws.Concat
namespace Go.Proofs.YtnedpflebkcdoaaDoor
open Go.RowKit

def dgt (k : Nat) : UInt8 := UInt8.ofNat (48 + k % 10)
theorem digit_u8 (k : Nat) : ((dgt k).toNat : Int) = 48 + (k : Int) % 10 := by
  rw [dgt, UInt8.toNat_ofNat']; omega

theorem one_byte (W : World) (k : Nat) : (convert 47 9 (.slice (some ⟨W.heap.size, 0, none⟩) 1 1)).run Tryd.prog (W.alloc (.cells #[.int .u8 (48 + (k : Int) % 10)] 5)) = .ok (.string ⟨[dgt k].toArray⟩) (W.alloc (.cells #[.int .u8 (48 + (k : Int) % 10)] 5)) :=
  run_convert_bytes_back _ _ _ 5 ⟨W.heap.size, 0, none⟩ 1 [dgt k] Tryd.underlying47 Tryd.underlying5 Tryd.underlying9 (fun j hj => by
    obtain rfl : j = 0 := by simpa using hj
    rw [← digit_u8]; simp [Addr.add])

def strN (v : Value) : Nat := match v with | .string s => s.size | _ => 0
theorem strN_mk (x : List UInt8) : strN (.string ⟨x.toArray⟩) = x.length := by simp [strN, ByteArray.size]

theorem pd_next {l n k : Nat} {x : List UInt8} (h : pd l n = pd (l - x.length) k ++ x) (hk : ¬ (k = 0 ∧ l - x.length = 0)) : pd l n = pd (l - (dgt k :: x).length) (k / 10) ++ (dgt k :: x) := by
  rw [h, pd_step hk, List.append_assoc]
  congr 2

set_option maxHeartbeats 800000 in
theorem rdigits_any (l n : Nat) (w : World) (hn : n < 10000000) (hl : l ≤ 7) (h1 : 1 ≤ l) :
    Calls Tryd.prog 35 #[.int .i64 n, .int .i64 l] w fun e w' => e = .returned (.string ⟨(pd l n).toArray⟩) ∧ Below w.heap.size w w' := by
  have PL := pd_len l n h1 hl hn
  go_enter Tryd.func35, Tryd.ntmps35
  go_wp2
  go_loopw [0, 5] (fun t s w' => ∃ (k : Nat) (x : List UInt8), k < 10000000 ∧ x.length ≤ 7 ∧ pd l n = pd (l - x.length) k ++ x ∧ t = .int .i64 k ∧ s = .string ⟨x.toArray⟩ ∧ Below w.heap.size w w') (fun t s _ => (intOf t).toNat + (l - strN s))
  case atStart => exact ⟨n, [], hn, by simp, by simp, rfl, rfl, Below.refl _ _⟩
  case round =>
    obtain ⟨k, x, k1, k2, k3, rfl, rfl, kb⟩ := hrel
    have K3 := Lib.hid k3
    have hcv := one_byte wr k
    clear k3
    have done : Hid (¬ (k = 0 ∧ l - x.length = 0) → ∃ (k' : Nat) (x' : List UInt8), k' < 10000000 ∧ x'.length ≤ 7 ∧ pd l n = pd (l - x'.length) k' ++ x' ∧ Value.int .i64 ((k : Int) / 10) = .int .i64 k' ∧ Value.string (⟨[dgt k].toArray⟩ ++ ⟨x.toArray⟩) = .string ⟨x'.toArray⟩ ∧ Below w.heap.size w (wr.alloc (.cells #[.int .u8 (48 + (k : Int) % 10)] 5))) := fun hk => by
      have e := pd_next K3.out hk
      refine ⟨k / 10, _, by omega, ?_, e, by simp, by rw [ByteArray.mk_append_mk]; rfl, kb.alloc kb.size _⟩
      have e2 := congrArg List.length e
      rw [List.length_append] at e2
      omega
    by_cases hk : 0 < k
    · go_wp2
      go_roundw
      case rel => exact done.out (by omega)
      case measure => simp [intOf, strN, ByteArray.size]; omega
    · by_cases hx : x.length < l
      · go_wp2
        go_roundw
        case rel => exact done.out (by omega)
        case measure => simp [intOf, strN, ByteArray.size]; omega
      · go_wp2
        go_ret
        have e : pd l n = x := by
          have := K3.out
          rwa [show l - x.length = 0 by omega, show k = 0 by omega, pd_nil, List.nil_append] at this
        rw [e]
        exact ⟨rfl, kb⟩

/-- The text of a date. -/
def dateL (y m d : Int) : List UInt8 := (if y < 0 then [45] else []) ++ pd 4 y.natAbs ++ [45] ++ pd 2 m.toNat ++ [45] ++ pd 2 d.toNat

theorem add_lists (x y : List UInt8) (hx : x.length ≤ 100) (hy : y.length ≤ 100) (W : World) : (Op.stringOp .add ⟨x.toArray⟩ ⟨y.toArray⟩).run Tryd.prog W = .ok (.string ⟨(x ++ y).toArray⟩) W :=
  run_string_add_lists W x y (by omega) (by omega)

/-- A date lies in block g, and nothing that was in w has changed. -/
structure Boxed (w : World) (g : Nat) (y m d : Int) (w' : World) : Prop where
  bel : Below w.heap.size w w'
  lt : g < w'.heap.size
  c0 : w'.cell? ⟨g, 0, none⟩ = some (.int .i64 y)
  c1 : w'.cell? ⟨g, 1, none⟩ = some (.int .i64 m)
  c2 : w'.cell? ⟨g, 2, none⟩ = some (.int .i64 d)
theorem Boxed.new (w : World) (y m d : Int) (t : TypeId) : Boxed w w.heap.size y m d (w.alloc (.cells #[.int .i64 y, .int .i64 m, .int .i64 d] t)) :=
  ⟨(Below.refl _ _).alloc (Nat.le_refl _) _, by simp, by simp, by simp, by simp⟩
theorem Boxed.next {w w' w2 : World} {g : Nat} {y m d : Int} (h : Boxed w g y m d w') (k : Below w'.heap.size w' w2) : Boxed w g y m d w2 :=
  ⟨h.bel.trans (k.mono h.bel.size), Nat.lt_of_lt_of_le h.lt k.size, by rw [k.cell h.lt]; exact h.c0, by rw [k.cell h.lt]; exact h.c1, by rw [k.cell h.lt]; exact h.c2⟩
theorem Boxed.drew {w w' : World} {g : Nat} {y m d : Int} (h : Boxed w g y m d w') : Boxed w g y m d w'.drew := ⟨h.bel.drew, h.lt, h.c0, h.c1, h.c2⟩

theorem rdig4 (n : Nat) (w : World) (hn : n < 10000000) : Calls Tryd.prog 35 #[.int .i64 n, .int .i64 4] w fun e w' => e = .returned (.string ⟨(pd 4 n).toArray⟩) ∧ Below w.heap.size w w' := rdigits_any 4 n w hn (by omega) (by omega)
theorem rdig2 (n : Nat) (w : World) (hn : n < 10000000) : Calls Tryd.prog 35 #[.int .i64 n, .int .i64 2] w fun e w' => e = .returned (.string ⟨(pd 2 n).toArray⟩) ∧ Below w.heap.size w w' := rdigits_any 2 n w hn (by omega) (by omega)

theorem rprint_pos (Y M D : Nat) (x1 x2 x3 x4 x5 : List UInt8) (w : World) (hY : Y < 10000000) (hM : M < 10000000) (hD : D < 10000000)
    (a1 : ∀ W : World, (Op.stringOp .add ⟨#[]⟩ ⟨(pd 4 Y).toArray⟩).run Tryd.prog W = .ok (.string ⟨x1.toArray⟩) W)
    (a2 : ∀ W : World, (Op.stringOp .add ⟨x1.toArray⟩ ⟨#[45]⟩).run Tryd.prog W = .ok (.string ⟨x2.toArray⟩) W)
    (a3 : ∀ W : World, (Op.stringOp .add ⟨x2.toArray⟩ ⟨(pd 2 M).toArray⟩).run Tryd.prog W = .ok (.string ⟨x3.toArray⟩) W)
    (a4 : ∀ W : World, (Op.stringOp .add ⟨x3.toArray⟩ ⟨#[45]⟩).run Tryd.prog W = .ok (.string ⟨x4.toArray⟩) W)
    (a5 : ∀ W : World, (Op.stringOp .add ⟨x4.toArray⟩ ⟨(pd 2 D).toArray⟩).run Tryd.prog W = .ok (.string ⟨x5.toArray⟩) W) :
    Calls Tryd.prog 22 #[.agg #[.int .i64 Y, .int .i64 M, .int .i64 D]] w fun e w' => e = .returned (.string ⟨x5.toArray⟩) ∧ Below w.heap.size w w' := by
  have T := Lib.hid (Boxed.new w Y M D 23)
  go_enter Tryd.func22, Tryd.ntmps22
  go_wp2
  go_region_held3 (fun w' => w'.cell? ⟨w.heap.size, 1, none⟩ = some (.int .i64 M) ∧ w'.cell? ⟨w.heap.size, 2, none⟩ = some (.int .i64 D)) (first | exact ⟨T.out.c1, T.out.c2⟩ | exact ⟨T.out.drew.c1, T.out.drew.c2⟩)
    (first
      | (go_at_call 35; ((with_reducible refine (rdig4 Y _ hY).mono ?_)); rintro e w1 ⟨rfl, hq⟩
         have T' : Hid (Boxed w w.heap.size Y M D w1) := by first | exact T.out.next hq | exact T.out.drew.next hq
         clear T hq
         have T := T'
         clear T')
      | (go_at_call 35; ((with_reducible refine (rdig2 M _ hM).mono ?_)); rintro e w1 ⟨rfl, hq⟩
         have T' : Hid (Boxed w w.heap.size Y M D w1) := by first | exact T.out.next hq | exact T.out.drew.next hq
         clear T hq
         have T := T'
         clear T')
      | (go_at_call 35; ((with_reducible refine (rdig2 D _ hD).mono ?_)); rintro e w1 ⟨rfl, hq⟩
         have T' : Hid (Boxed w w.heap.size Y M D w1) := by first | exact T.out.next hq | exact T.out.drew.next hq
         clear T hq
         have T := T'
         clear T'))
  go_wp2
  go_ret
  exact ⟨rfl, T.out.bel⟩
theorem rprint_neg (Y M D : Nat) (x1 x2 x3 x4 x5 : List UInt8) (w : World) (hY0 : 0 < Y) (hY : Y < 10000000) (hM : M < 10000000) (hD : D < 10000000)
    (a1 : ∀ W : World, (Op.stringOp .add ⟨#[45]⟩ ⟨(pd 4 Y).toArray⟩).run Tryd.prog W = .ok (.string ⟨x1.toArray⟩) W)
    (a2 : ∀ W : World, (Op.stringOp .add ⟨x1.toArray⟩ ⟨#[45]⟩).run Tryd.prog W = .ok (.string ⟨x2.toArray⟩) W)
    (a3 : ∀ W : World, (Op.stringOp .add ⟨x2.toArray⟩ ⟨(pd 2 M).toArray⟩).run Tryd.prog W = .ok (.string ⟨x3.toArray⟩) W)
    (a4 : ∀ W : World, (Op.stringOp .add ⟨x3.toArray⟩ ⟨#[45]⟩).run Tryd.prog W = .ok (.string ⟨x4.toArray⟩) W)
    (a5 : ∀ W : World, (Op.stringOp .add ⟨x4.toArray⟩ ⟨(pd 2 D).toArray⟩).run Tryd.prog W = .ok (.string ⟨x5.toArray⟩) W) :
    Calls Tryd.prog 22 #[.agg #[.int .i64 (-(Y : Int)), .int .i64 M, .int .i64 D]] w fun e w' => e = .returned (.string ⟨x5.toArray⟩) ∧ Below w.heap.size w w' := by
  have T := Lib.hid (Boxed.new w (-(Y : Int)) M D 23)
  have hYi : (0 : Int) < (Y : Int) := by omega
  go_enter Tryd.func22, Tryd.ntmps22
  go_wp2
  go_region_held3 (fun w' => w'.cell? ⟨w.heap.size, 1, none⟩ = some (.int .i64 M) ∧ w'.cell? ⟨w.heap.size, 2, none⟩ = some (.int .i64 D)) (first | exact ⟨T.out.c1, T.out.c2⟩ | exact ⟨T.out.drew.c1, T.out.drew.c2⟩)
    (first
      | (go_at_call 35; ((with_reducible refine (rdig4 Y _ hY).mono ?_)); rintro e w1 ⟨rfl, hq⟩
         have T' : Hid (Boxed w w.heap.size (-(Y : Int)) M D w1) := by first | exact T.out.next hq | exact T.out.drew.next hq
         clear T hq
         have T := T'
         clear T')
      | (go_at_call 35; ((with_reducible refine (rdig2 M _ hM).mono ?_)); rintro e w1 ⟨rfl, hq⟩
         have T' : Hid (Boxed w w.heap.size (-(Y : Int)) M D w1) := by first | exact T.out.next hq | exact T.out.drew.next hq
         clear T hq
         have T := T'
         clear T')
      | (go_at_call 35; ((with_reducible refine (rdig2 D _ hD).mono ?_)); rintro e w1 ⟨rfl, hq⟩
         have T' : Hid (Boxed w w.heap.size (-(Y : Int)) M D w1) := by first | exact T.out.next hq | exact T.out.drew.next hq
         clear T hq
         have T := T'
         clear T'))
  go_wp2
  go_ret
  exact ⟨rfl, T.out.bel⟩

theorem dateL_nat (Y M D : Nat) : dateL Y M D = ([] : List UInt8) ++ pd 4 Y ++ [45] ++ pd 2 M ++ [45] ++ pd 2 D := by
  unfold dateL; rw [if_neg (by omega)]; simp
theorem dateL_neg (Y M D : Nat) (h : 0 < Y) : dateL (-(Y : Int)) M D = [45] ++ pd 4 Y ++ [45] ++ pd 2 M ++ [45] ++ pd 2 D := by
  unfold dateL; rw [if_pos (by omega)]; simp

theorem rprint_nat (Y M D : Nat) (w : World) (hY : Y < 10000000) (hM : M < 10000000) (hD : D < 10000000) :
    Calls Tryd.prog 22 #[.agg #[.int .i64 Y, .int .i64 M, .int .i64 D]] w fun e w' => e = .returned (.string ⟨(dateL Y M D).toArray⟩) ∧ Below w.heap.size w w' := by
  have l1 := pd_len 4 Y (by omega) (by omega) hY
  have l2 := pd_len 2 M (by omega) (by omega) hM
  have l3 := pd_len 2 D (by omega) (by omega) hD
  rw [dateL_nat]
  exact rprint_pos Y M D _ _ _ _ _ w hY hM hD (add_lists [] _ (by simp) (by omega)) (add_lists _ [45] (by simp; omega) (by simp)) (add_lists _ _ (by simp; omega) (by omega)) (add_lists _ [45] (by simp; omega) (by simp)) (add_lists _ _ (by simp; omega) (by omega))
theorem rprint_min (Y M D : Nat) (w : World) (hY0 : 0 < Y) (hY : Y < 10000000) (hM : M < 10000000) (hD : D < 10000000) :
    Calls Tryd.prog 22 #[.agg #[.int .i64 (-(Y : Int)), .int .i64 M, .int .i64 D]] w fun e w' => e = .returned (.string ⟨(dateL (-(Y : Int)) M D).toArray⟩) ∧ Below w.heap.size w w' := by
  have l1 := pd_len 4 Y (by omega) (by omega) hY
  have l2 := pd_len 2 M (by omega) (by omega) hM
  have l3 := pd_len 2 D (by omega) (by omega) hD
  rw [dateL_neg _ _ _ hY0]
  exact rprint_neg Y M D _ _ _ _ _ w hY0 hY hM hD (add_lists [45] _ (by simp) (by omega)) (add_lists _ [45] (by simp; omega) (by simp)) (add_lists _ _ (by simp; omega) (by omega)) (add_lists _ [45] (by simp; omega) (by simp)) (add_lists _ _ (by simp; omega) (by omega))
theorem rprint_any (y m d : Int) (w : World) (h : okD y m d) :
    Calls Tryd.prog 22 #[.agg #[.int .i64 y, .int .i64 m, .int .i64 d]] w fun e w' => e = .returned (.string ⟨(dateL y m d).toArray⟩) ∧ Below w.heap.size w w' := by
  obtain ⟨h1, h2, h3, h4, h5, h6⟩ := h
  have db := dim_bd y m h3 h4
  obtain ⟨M, rfl⟩ := Int.eq_ofNat_of_zero_le (show 0 ≤ m by omega)
  obtain ⟨D, rfl⟩ := Int.eq_ofNat_of_zero_le (show 0 ≤ d by omega)
  by_cases hy : 0 ≤ y
  · obtain ⟨Y, rfl⟩ := Int.eq_ofNat_of_zero_le hy
    exact rprint_nat Y M D w (by omega) (by omega) (by omega)
  · obtain ⟨Y, hY⟩ := Int.eq_ofNat_of_zero_le (show 0 ≤ -y by omega)
    obtain rfl : y = -(Y : Int) := by omega
    exact rprint_min Y M D w (by omega) (by omega) (by omega) (by omega)
end Go.Proofs.YtnedpflebkcdoaaDoor

/- The contract of clock.readField: whether a part is as it has to be, and the seconds that it is; nothing that was in memory changes. The table of parts reads as it is laid. -/
import Derived.Test.YtjafbopmedbhcaaDoorSpn
import Derived.Test.YtjafbopmedbhcaaDoorCivD
namespace Go.Proofs.YtjafbopmedbhcaaDoor
open Go.RowKit

def FldAt (w : World) : Prop := ∀ k : Nat, k < 3 → w.cell? ⟨3, 4 * k, none⟩ = some (.int .i64 (fw k)) ∧ w.cell? ⟨3, 4 * k + 1, none⟩ = some (.int .i64 (mo k)) ∧ w.cell? ⟨3, 4 * k + 2, none⟩ = some (.int .i64 (bl k)) ∧ w.cell? ⟨3, 4 * k + 3, none⟩ = some (.int .i64 (un k))
theorem FldAt.lt {w : World} (h : FldAt w) : 3 < w.heap.size := cell_lt (h 0 (by omega)).1
theorem FldAt.below {w w' : World} {B : Nat} (h : FldAt w) (k : Below B w w') (hB : 3 < B) : FldAt w' := fun i hi => by
  rw [k.cell hB, k.cell hB, k.cell hB, k.cell hB]; exact h i hi
theorem FldAt.next {w w' : World} (h : FldAt w) (k : Below w.heap.size w w') : FldAt w' := h.below k h.lt

theorem fld_far (k : Nat) (p : List UInt8) (w : World) (hk : 3 ≤ k) :
    Calls Tryd.prog 51 #[.int .i64 k, .string ⟨p.toArray⟩] w fun e w' => e = .returned (.tuple #[.int .i64 0, .bool false]) ∧ Below w.heap.size w w' := by
  have hk' : (3 : Int) ≤ (k : Int) := by omega
  go_enter Tryd.func51, Tryd.ntmps51
  go_wp2
  go_ret2
  exact ⟨rfl, Below.refl _ _⟩

theorem byte_at (p : List UInt8) (i : Nat) (h : i < p.length) (w : World) : (Instr.index 9 (.string ⟨p.toArray⟩) (.int .i64 (i : Int))).run Tryd.prog w = .ok (.int .u8 ((p.getD i 0).toNat : Int)) w := by
  have hs : (⟨p.toArray⟩ : ByteArray).size = p.length := by simp [ByteArray.size]
  rw [run_index_string w _ _ _ _ Tryd.underlying9, dif_pos ⟨by omega, by omega⟩]
  have : (⟨p.toArray⟩ : ByteArray)[(i : Int).toNat]'(by rw [hs]; simpa using h) = p.getD i 0 := by
    simp [ByteArray.getElem_eq_getElem_data, h]
  rw [this]

/-- The table's row at place k: four numbers. -/
structure RowIs (k f m b u : Nat) (w : World) : Prop where
  c0 : w.cell? ⟨3, 4 * k, none⟩ = some (.int .i64 f)
  c1 : w.cell? ⟨3, 4 * k + 1, none⟩ = some (.int .i64 m)
  c2 : w.cell? ⟨3, 4 * k + 2, none⟩ = some (.int .i64 b)
  c3 : w.cell? ⟨3, 4 * k + 3, none⟩ = some (.int .i64 u)

theorem fld_short (k f m b u : Nat) (p : List UInt8) (w : World) (ht : RowIs k f m b u w) (hk : k = 0 ∨ k = 1 ∨ k = 2) (h : p.length < f) :
    Calls Tryd.prog 51 #[.int .i64 k, .string ⟨p.toArray⟩] w fun e w' => e = .returned (.tuple #[.int .i64 0, .bool false]) ∧ Below w.heap.size w w' := by
  obtain ⟨c0, c1, c2, c3⟩ := ht
  have hlt := cell_lt c0
  have hs : (⟨p.toArray⟩ : ByteArray).size = p.length := by simp [ByteArray.size]
  have h' : (p.length : Int) < (f : Int) := by omega
  rcases hk with rfl | rfl | rfl
  all_goals
    simp only [Nat.reduceMul, Nat.reduceAdd] at c0 c1 c2 c3
    go_enter Tryd.func51, Tryd.ntmps51
    go_wp2
    go_ret2
    exact ⟨rfl, (Below.refl _ _).alloc (Nat.le_refl _) _⟩

theorem fld_long (k f m b u : Nat) (p : List UInt8) (w : World) (ht : RowIs k f m b u w) (hk : k = 0 ∨ k = 1 ∨ k = 2) (h1 : f ≤ p.length) (h : m < p.length) :
    Calls Tryd.prog 51 #[.int .i64 k, .string ⟨p.toArray⟩] w fun e w' => e = .returned (.tuple #[.int .i64 0, .bool false]) ∧ Below w.heap.size w w' := by
  obtain ⟨c0, c1, c2, c3⟩ := ht
  have hlt := cell_lt c0
  have hs : (⟨p.toArray⟩ : ByteArray).size = p.length := by simp [ByteArray.size]
  have h1' : ¬ (p.length : Int) < (f : Int) := by omega
  have h' : (m : Int) < (p.length : Int) := by omega
  rcases hk with rfl | rfl | rfl
  all_goals
    simp only [Nat.reduceMul, Nat.reduceAdd] at c0 c1 c2 c3
    go_enter Tryd.func51, Tryd.ntmps51
    go_wp2
    go_ret2
    exact ⟨rfl, (Below.refl _ _).alloc (Nat.le_refl _) _⟩

theorem take_next (p : List UInt8) (i : Nat) (h : i < p.length) : p.take (i + 1) = p.take i ++ [p.getD i 0] := by
  rw [List.take_succ_eq_append_getElem h]; simp [h]
theorem numOf_snoc (l : List UInt8) (b : UInt8) : numOf (l ++ [b]) = 10 * numOf l + (b.toNat - 48) := by simp [numOf]
theorem allDig_snoc (l : List UInt8) (b : UInt8) : allDig (l ++ [b]) = (allDig l && isDig b) := by simp [allDig]
theorem numOf_bd (l : List UInt8) (h : allDig l = true) : ∀ n : Nat, l.length ≤ n → n ≤ 12 → numOf l < 10 ^ n := by
  intro n hn h12
  have : ∀ l : List UInt8, allDig l = true → numOf l < 10 ^ l.length := by
    intro l
    induction hl : l.length generalizing l with
    | zero => intro _; obtain rfl : l = [] := by simpa using hl
              simp [numOf]
    | succ k ih =>
      intro hd
      obtain ⟨q, c, rfl⟩ : ∃ q c, l = q ++ [c] := ⟨l.dropLast, l.getLast (by intro e; simp [e] at hl), (List.dropLast_concat_getLast _).symm⟩
      rw [allDig_snoc, Bool.and_eq_true] at hd
      have := ih q (by simpa using hl) hd.1
      rw [numOf_snoc, Nat.pow_succ]
      have h2 := hd.2
      simp only [isDig, Bool.and_eq_true, decide_eq_true_eq] at h2
      omega
  exact Nat.lt_of_lt_of_le (this l h) (Nat.pow_le_pow_right (by omega) hn)

theorem allDig_cut {p : List UInt8} {i : Nat} (h : i < p.length) (hd : isDig (p.getD i 0) = false) : allDig p = false := by
  have e : p.getD i 0 = p[i] := by simp [h]
  rw [allDig, List.all_eq_false]
  exact ⟨p[i], List.getElem_mem h, by rw [← e, hd]; simp⟩

theorem no_dig {p : List UInt8} {b u : Nat} {v : Int} {ok : Bool} (h : ok = (allDig p && decide (numOf p < b)) ∧ v = if ok = true then ((numOf p * u : Nat) : Int) else 0) (hd : allDig p = false) : ok = false ∧ v = 0 := by
  obtain ⟨rfl, rfl⟩ := h
  simp [hd]
theorem all_dig {p : List UInt8} {b u : Nat} {v : Int} {ok : Bool} (h : ok = (allDig p && decide (numOf p < b)) ∧ v = if ok = true then ((numOf p * u : Nat) : Int) else 0) (hd : allDig p = true) : (numOf p < b → ok = true ∧ v = (numOf p : Int) * (u : Int)) ∧ (¬ numOf p < b → ok = false ∧ v = 0) := by
  obtain ⟨rfl, rfl⟩ := h
  constructor <;> intro h <;> simp [hd, h]

set_option maxHeartbeats 1600000 in
theorem fld_in (k f m b u : Nat) (p : List UInt8) (w : World) (ht : RowIs k f m b u w) (hk : k = 0 ∨ k = 1 ∨ k = 2) (h1 : f ≤ p.length) (h2 : p.length ≤ m) (hm : m ≤ 3) (_hb : b ≤ 1000) (hu : u ≤ 3600) (v : Int) (ok : Bool) (HV : Hid (ok = (allDig p && decide (numOf p < b)) ∧ v = if ok = true then ((numOf p * u : Nat) : Int) else 0)) :
    Calls Tryd.prog 51 #[.int .i64 k, .string ⟨p.toArray⟩] w fun e w' => e = .returned (.tuple #[.int .i64 v, .bool ok]) ∧ Below w.heap.size w w' := by
  obtain ⟨c0, c1, c2, c3⟩ := ht
  have hlt := cell_lt c0
  have hs : (⟨p.toArray⟩ : ByteArray).size = p.length := by simp [ByteArray.size]
  have h1' : ¬ (p.length : Int) < (f : Int) := by omega
  have h2' : ¬ (m : Int) < (p.length : Int) := by omega
  rcases hk with rfl | rfl | rfl
  all_goals
    simp only [Nat.reduceMul, Nat.reduceAdd] at c0 c1 c2 c3
    go_enter Tryd.func51, Tryd.ntmps51
    go_wp2
    go_loop [7, 28] (fun vn vi => ∃ i : Nat, vi = .int .i64 i ∧ i ≤ p.length ∧ allDig (p.take i) = true ∧ vn = .int .i64 (numOf (p.take i))) (fun _ vi => p.length - (intOf vi).toNat)
    case atStart => exact ⟨0, rfl, by omega, by simp [allDig], by simp [numOf]⟩
    case round =>
      obtain ⟨i, rfl, i1, i2, rfl⟩ := hrel
      have nb := numOf_bd _ i2 3 (by rw [List.length_take]; omega) (by omega)
      by_cases hi : i < p.length
      · have hi' : (i : Int) < (p.length : Int) := by omega
        have hix := byte_at p i hi
        have TN := Lib.hid (take_next p i hi)
        have HC := Lib.hid (allDig_cut hi)
        generalize hc : p.getD i 0 = c at hix TN HC
        have clt := c.toNat_lt
        generalize hn : numOf (p.take i) = n at nb
        have HN := Lib.hid hn
        clear hn hc
        by_cases d1 : c.toNat < 48
        · have d1' : (c.toNat : Int) < 48 := by omega
          have HD : Hid (ok = false ∧ v = 0) := (no_dig HV.out (HC.out (by simp [isDig]; omega)))
          go_wp2
          go_ret2
          rw [HD.out.1, HD.out.2]
          exact ⟨rfl, (Below.refl _ _).alloc (Nat.le_refl _) _⟩
        · by_cases d2 : 57 < c.toNat
          · have d1' : ¬ (c.toNat : Int) < 48 := by omega
            have d2' : 57 < (c.toNat : Int) := by omega
            have HD : Hid (ok = false ∧ v = 0) := (no_dig HV.out (HC.out (by simp [isDig]; omega)))
            go_wp2
            go_ret2
            rw [HD.out.1, HD.out.2]
            exact ⟨rfl, (Below.refl _ _).alloc (Nat.le_refl _) _⟩
          · have d1' : ¬ (c.toNat : Int) < 48 := by omega
            have d2' : ¬ 57 < (c.toNat : Int) := by omega
            have HD : Hid (allDig (p.take (i + 1)) = true ∧ numOf (p.take (i + 1)) = 10 * n + (c.toNat - 48)) := by
              show _ ∧ _
              rw [TN.out, allDig_snoc, numOf_snoc, i2, HN.out]
              refine ⟨?_, rfl⟩
              simp [isDig]; omega
            go_wp2
            go_round
            case rel => exact ⟨i + 1, by go_num, by omega, HD.out.1, by rw [HD.out.2]; go_num⟩
            case measure => simp [intOf]; omega
      · have hi' : ¬ (i : Int) < (p.length : Int) := by omega
        obtain rfl : i = p.length := by omega
        rw [List.take_length] at i2 nb ⊢
        have HD := Lib.hid (all_dig HV.out i2)
        clear i2 HV
        generalize hn : numOf p = n at nb HD ⊢
        by_cases hb2 : n < b
        · have hb' : ¬ (b : Int) ≤ (n : Int) := by omega
          have hmul : (n : Int) * (u : Int) ≤ 1000 * 3600 := Int.mul_le_mul (by omega) (by omega) (by omega) (by omega)
          have hmul0 : 0 ≤ (n : Int) * (u : Int) := Int.mul_nonneg (by omega) (by omega)
          have HE : Hid (ok = true ∧ v = (n : Int) * (u : Int)) := HD.out.1 hb2
          go_wp2
          go_ret2
          rw [HE.out.1, HE.out.2]
          exact ⟨rfl, (Below.refl _ _).alloc (Nat.le_refl _) _⟩
        · have hb' : (b : Int) ≤ (n : Int) := by omega
          have HE : Hid (ok = false ∧ v = 0) := HD.out.2 hb2
          go_wp2
          go_ret2
          rw [HE.out.1, HE.out.2]
          exact ⟨rfl, (Below.refl _ _).alloc (Nat.le_refl _) _⟩

theorem fld_any (k : Nat) (p : List UInt8) (w : World) (ht : FldAt w) :
    Calls Tryd.prog 51 #[.int .i64 k, .string ⟨p.toArray⟩] w fun e w' => e = .returned (.tuple #[.int .i64 (fvI k p), .bool (fldOk k p)]) ∧ Below w.heap.size w w' := by
  by_cases hk : k < 3
  · have hr : RowIs k (fw k) (mo k) (bl k) (un k) w := ⟨(ht k hk).1, (ht k hk).2.1, (ht k hk).2.2.1, (ht k hk).2.2.2⟩
    have h3 : k = 0 ∨ k = 1 ∨ k = 2 := by omega
    have hb : mo k ≤ 3 ∧ bl k ≤ 1000 ∧ un k ≤ 3600 := by unfold mo bl un; refine ⟨?_, ?_, ?_⟩ <;> (repeat' split) <;> omega
    by_cases h1 : p.length < fw k
    · have e : fldOk k p = false := by simp [fldOk]; omega
      have := fld_short k _ _ _ _ p w hr h3 h1
      rwa [show fvI k p = 0 by simp [fvI, e], e]
    · by_cases h2 : mo k < p.length
      · have e : fldOk k p = false := by simp [fldOk]; omega
        have := fld_long k _ _ _ _ p w hr h3 (by omega) h2
        rwa [show fvI k p = 0 by simp [fvI, e], e]
      · have e : fldOk k p = (allDig p && decide (numOf p < bl k)) := by simp [fldOk, hk, show fw k ≤ p.length by omega, show p.length ≤ mo k by omega]
        exact fld_in k _ _ _ _ p w hr h3 (by omega) (by omega) hb.1 hb.2.1 hb.2.2 _ _ ⟨e, rfl⟩
  · have e : fldOk k p = false := by simp [fldOk]; omega
    have := fld_far k p w (by omega)
    rwa [show fvI k p = 0 by simp [fvI, e], e]
end Go.Proofs.YtjafbopmedbhcaaDoor

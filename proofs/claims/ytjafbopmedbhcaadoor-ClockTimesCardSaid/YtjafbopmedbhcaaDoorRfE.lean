/- The contract of meridianref03.Parse: what it returns, for every text of up to 900 bytes; nothing that was in memory changes. -/
import Derived.Test.YtjafbopmedbhcaaDoorRfD
namespace Go.Proofs.YtjafbopmedbhcaaDoor
open Go.RowKit

theorem last_run (s : List UInt8) (c : UInt8) (h : s.getLast? = some c) (W : World) : (Instr.index 9 (.string ⟨s.toArray⟩) (.int .i64 ((s.length : Int) - 1))).run Tryd.prog W = .ok (.int .u8 (c.toNat : Int)) W := by
  obtain ⟨q, rfl⟩ := List.getLast?_eq_some_iff.1 h
  have e : (((q ++ [c]).length : Int) - 1) = ((q.length : Nat) : Int) := by simp
  rw [e]
  exact byte_run (q ++ [c]) q.length (by simp) c (by simp) W
theorem init_run (s : List UInt8) (h : 0 < s.length) (W : World) : (Instr.slice 9 (.string ⟨s.toArray⟩) none (some (.int .i64 ((s.length : Int) - 1))) none).run Tryd.prog W = .ok (.string ⟨s.dropLast.toArray⟩) W := by
  have hs : (⟨s.toArray⟩ : ByteArray).size = s.length := by simp [ByteArray.size]
  rw [run_slice_string_to_if (h := Tryd.underlying9), if_pos ⟨by omega, by rw [hs]; omega⟩]
  have e : ((s.length : Int) - 1).toNat = s.length - 1 := by omega
  rw [e]
  congr 2
  simp [ByteArray.extract_mk, List.dropLast_eq_take]
theorem rspan_is (s : List UInt8) (n x : Int) (w : World) (hs : s.length ≤ 900) (h : Hid (spanN s = n ∧ spanE s = x)) :
    Calls Tryd.prog 20 #[.string ⟨s.toArray⟩] w fun e w' => e = .returned (.tuple #[.int .i64 n, .int .i64 x]) ∧ Below w.heap.size w w' := by
  have := rspan_any s w hs
  rwa [h.out.1, h.out.2] at this
theorem byte_ne {b c : UInt8} (h : b ≠ c) : ((b.toNat : Int) == (c.toNat : Int)) = false := by
  simp only [beq_eq_false_iff_ne]
  intro e
  exact h (UInt8.toNat_inj.1 (by omega))

theorem rpar_nil_ok  (n : Int) (w : World) (h : Hid (spanN [] = n ∧ spanE [] = 0)) :
    Calls Tryd.prog 23 #[.string ⟨#[]⟩] w fun e w' => e = .returned (.tuple #[.agg #[.int .i64 n, .int .i64 0], .int .i64 0]) ∧ Below w.heap.size w w' := by
  have B := Lib.hid (Blk2.new w 0 0 44)
  go_enter Tryd.func23, Tryd.ntmps23
  go_wp2_with (go_at_call 20; ((with_reducible refine (rspan_is [] n 0 _ (by simp) h).mono ?_)); rintro e w1 ⟨rfl, k1⟩; simp only []
               have B1 := Lib.hid (B.out.next k1)
               have lt := B1.out.lt
               have c0 := B1.out.c0
               have c1 := B1.out.c1
               have f0 := B1.out.f0
               have f1 := B1.out.f1)
  refine ((Blk2.new w 0 0 44).next k1).store n 0 |>.ret fun W' B3 => ?_
  clear lt c0 c1 f0 f1
  have c0 := B3.c0
  have c1 := B3.c1
  exact bodyPost_ret (v := .tuple #[.agg #[.int .i64 n, .int .i64 0], .int .i64 0]) (by simp [results, Tryd.results23, go_sem, c0, c1]) rfl ⟨rfl, B3.bel⟩

theorem rpar_nil_er  (n x : Int) (w : World) (h : Hid (spanN [] = n ∧ spanE [] = x)) (hx : x ≠ 0) :
    Calls Tryd.prog 23 #[.string ⟨#[]⟩] w fun e w' => e = .returned (.tuple #[.agg #[.int .i64 0, .int .i64 0], .int .i64 x]) ∧ Below w.heap.size w w' := by
  have B := Lib.hid (Blk2.new w 0 0 44)
  go_enter Tryd.func23, Tryd.ntmps23
  go_wp2_with (go_at_call 20; ((with_reducible refine (rspan_is [] n x _ (by simp) h).mono ?_)); rintro e w1 ⟨rfl, k1⟩; simp only []
               have B1 := Lib.hid (B.out.next k1)
               have lt := B1.out.lt
               have c0 := B1.out.c0
               have c1 := B1.out.c1
               have f0 := B1.out.f0
               have f1 := B1.out.f1)
  refine ((Blk2.new w 0 0 44).next k1).store 0 0 |>.ret fun W' B3 => ?_
  clear lt c0 c1 f0 f1
  have c0 := B3.c0
  have c1 := B3.c1
  exact bodyPost_ret (v := .tuple #[.agg #[.int .i64 0, .int .i64 0], .int .i64 x]) (by simp [results, Tryd.results23, go_sem, c0, c1]) rfl ⟨rfl, B3.bel⟩

theorem rpar_o_ok (c : UInt8) (s : List UInt8) (hs : s.length ≤ 900) (hl : s.getLast? = some c) (n0 : c ≠ 119) (n1 : c ≠ 115) (n2 : c ≠ 117) (n3 : c ≠ 103) (n4 : c ≠ 122) (n : Int) (w : World) (h : Hid (spanN s = n ∧ spanE s = 0)) :
    Calls Tryd.prog 23 #[.string ⟨s.toArray⟩] w fun e w' => e = .returned (.tuple #[.agg #[.int .i64 n, .int .i64 0], .int .i64 0]) ∧ Below w.heap.size w w' := by
  have hix := last_run s c hl
  have hz : (⟨s.toArray⟩ : ByteArray).size = s.length := by simp [ByteArray.size]
  have m0 : ((c.toNat : Int) == 119) = false := byte_ne n0
  have m1 : ((c.toNat : Int) == 115) = false := byte_ne n1
  have m2 : ((c.toNat : Int) == 117) = false := byte_ne n2
  have m3 : ((c.toNat : Int) == 103) = false := byte_ne n3
  have m4 : ((c.toNat : Int) == 122) = false := byte_ne n4
  have s0 : 0 < s.length := by cases s with | nil => simp at hl | cons _ _ => simp
  have s1 : 0 < (s.length : Int) := by omega
  clear hl n0 n1 n2 n3 n4
  have B := Lib.hid (Blk2.new w 0 0 44)
  go_enter Tryd.func23, Tryd.ntmps23
  go_wp2_with (go_at_call 20; ((with_reducible refine (rspan_is s n 0 _ hs h).mono ?_)); rintro e w1 ⟨rfl, k1⟩; simp only []
               have B1 := Lib.hid (B.out.next k1)
               have lt := B1.out.lt
               have c0 := B1.out.c0
               have c1 := B1.out.c1
               have f0 := B1.out.f0
               have f1 := B1.out.f1)
  refine ((Blk2.new w 0 0 44).next k1).store n 0 |>.ret fun W' B3 => ?_
  clear lt c0 c1 f0 f1
  have c0 := B3.c0
  have c1 := B3.c1
  exact bodyPost_ret (v := .tuple #[.agg #[.int .i64 n, .int .i64 0], .int .i64 0]) (by simp [results, Tryd.results23, go_sem, c0, c1]) rfl ⟨rfl, B3.bel⟩

theorem rpar_o_er (c : UInt8) (s : List UInt8) (hs : s.length ≤ 900) (hl : s.getLast? = some c) (n0 : c ≠ 119) (n1 : c ≠ 115) (n2 : c ≠ 117) (n3 : c ≠ 103) (n4 : c ≠ 122) (n x : Int) (w : World) (h : Hid (spanN s = n ∧ spanE s = x)) (hx : x ≠ 0) :
    Calls Tryd.prog 23 #[.string ⟨s.toArray⟩] w fun e w' => e = .returned (.tuple #[.agg #[.int .i64 0, .int .i64 0], .int .i64 x]) ∧ Below w.heap.size w w' := by
  have hix := last_run s c hl
  have hz : (⟨s.toArray⟩ : ByteArray).size = s.length := by simp [ByteArray.size]
  have m0 : ((c.toNat : Int) == 119) = false := byte_ne n0
  have m1 : ((c.toNat : Int) == 115) = false := byte_ne n1
  have m2 : ((c.toNat : Int) == 117) = false := byte_ne n2
  have m3 : ((c.toNat : Int) == 103) = false := byte_ne n3
  have m4 : ((c.toNat : Int) == 122) = false := byte_ne n4
  have s0 : 0 < s.length := by cases s with | nil => simp at hl | cons _ _ => simp
  have s1 : 0 < (s.length : Int) := by omega
  clear hl n0 n1 n2 n3 n4
  have B := Lib.hid (Blk2.new w 0 0 44)
  go_enter Tryd.func23, Tryd.ntmps23
  go_wp2_with (go_at_call 20; ((with_reducible refine (rspan_is s n x _ hs h).mono ?_)); rintro e w1 ⟨rfl, k1⟩; simp only []
               have B1 := Lib.hid (B.out.next k1)
               have lt := B1.out.lt
               have c0 := B1.out.c0
               have c1 := B1.out.c1
               have f0 := B1.out.f0
               have f1 := B1.out.f1)
  refine ((Blk2.new w 0 0 44).next k1).store 0 0 |>.ret fun W' B3 => ?_
  clear lt c0 c1 f0 f1
  have c0 := B3.c0
  have c1 := B3.c1
  exact bodyPost_ret (v := .tuple #[.agg #[.int .i64 0, .int .i64 0], .int .i64 x]) (by simp [results, Tryd.results23, go_sem, c0, c1]) rfl ⟨rfl, B3.bel⟩

theorem rpar_w_ok (s : List UInt8) (hs : s.length ≤ 900) (hl : s.getLast? = some 119) (n : Int) (w : World) (h : Hid (spanN s.dropLast = n ∧ spanE s.dropLast = 0)) :
    Calls Tryd.prog 23 #[.string ⟨s.toArray⟩] w fun e w' => e = .returned (.tuple #[.agg #[.int .i64 n, .int .i64 0], .int .i64 0]) ∧ Below w.heap.size w w' := by
  have hix : ∀ W : World, (Instr.index 9 (.string ⟨s.toArray⟩) (.int .i64 ((s.length : Int) - 1))).run Tryd.prog W = .ok (.int .u8 119) W := last_run s 119 hl
  have hz : (⟨s.toArray⟩ : ByteArray).size = s.length := by simp [ByteArray.size]
  have s0 : 0 < s.length := by cases s with | nil => simp at hl | cons _ _ => simp
  have s1 : 0 < (s.length : Int) := by omega
  have hsl := init_run s s0
  have tl : s.dropLast.length ≤ 900 := by rw [List.length_dropLast]; omega
  clear hl
  have B := Lib.hid (Blk2.new w 0 0 44)
  go_enter Tryd.func23, Tryd.ntmps23
  go_wp2_with (go_at_call 20; ((with_reducible refine (rspan_is s.dropLast n 0 _ tl h).mono ?_)); rintro e w1 ⟨rfl, k1⟩; simp only []
               have B1 := Lib.hid (B.out.next k1)
               have lt := B1.out.lt
               have c0 := B1.out.c0
               have c1 := B1.out.c1
               have f0 := B1.out.f0
               have f1 := B1.out.f1)
  refine ((Blk2.new w 0 0 44).next k1).store n 0 |>.ret fun W' B3 => ?_
  clear lt c0 c1 f0 f1
  have c0 := B3.c0
  have c1 := B3.c1
  exact bodyPost_ret (v := .tuple #[.agg #[.int .i64 n, .int .i64 0], .int .i64 0]) (by simp [results, Tryd.results23, go_sem, c0, c1]) rfl ⟨rfl, B3.bel⟩

theorem rpar_w_er (s : List UInt8) (hs : s.length ≤ 900) (hl : s.getLast? = some 119) (n x : Int) (w : World) (h : Hid (spanN s.dropLast = n ∧ spanE s.dropLast = x)) (hx : x ≠ 0) :
    Calls Tryd.prog 23 #[.string ⟨s.toArray⟩] w fun e w' => e = .returned (.tuple #[.agg #[.int .i64 0, .int .i64 0], .int .i64 x]) ∧ Below w.heap.size w w' := by
  have hix : ∀ W : World, (Instr.index 9 (.string ⟨s.toArray⟩) (.int .i64 ((s.length : Int) - 1))).run Tryd.prog W = .ok (.int .u8 119) W := last_run s 119 hl
  have hz : (⟨s.toArray⟩ : ByteArray).size = s.length := by simp [ByteArray.size]
  have s0 : 0 < s.length := by cases s with | nil => simp at hl | cons _ _ => simp
  have s1 : 0 < (s.length : Int) := by omega
  have hsl := init_run s s0
  have tl : s.dropLast.length ≤ 900 := by rw [List.length_dropLast]; omega
  clear hl
  have B := Lib.hid (Blk2.new w 0 0 44)
  go_enter Tryd.func23, Tryd.ntmps23
  go_wp2_with (go_at_call 20; ((with_reducible refine (rspan_is s.dropLast n x _ tl h).mono ?_)); rintro e w1 ⟨rfl, k1⟩; simp only []
               have B1 := Lib.hid (B.out.next k1)
               have lt := B1.out.lt
               have c0 := B1.out.c0
               have c1 := B1.out.c1
               have f0 := B1.out.f0
               have f1 := B1.out.f1)
  refine ((Blk2.new w 0 0 44).next k1).store 0 0 |>.ret fun W' B3 => ?_
  clear lt c0 c1 f0 f1
  have c0 := B3.c0
  have c1 := B3.c1
  exact bodyPost_ret (v := .tuple #[.agg #[.int .i64 0, .int .i64 0], .int .i64 x]) (by simp [results, Tryd.results23, go_sem, c0, c1]) rfl ⟨rfl, B3.bel⟩

theorem rpar_s_ok (s : List UInt8) (hs : s.length ≤ 900) (hl : s.getLast? = some 115) (n : Int) (w : World) (h : Hid (spanN s.dropLast = n ∧ spanE s.dropLast = 0)) :
    Calls Tryd.prog 23 #[.string ⟨s.toArray⟩] w fun e w' => e = .returned (.tuple #[.agg #[.int .i64 n, .int .i64 1], .int .i64 0]) ∧ Below w.heap.size w w' := by
  have hix : ∀ W : World, (Instr.index 9 (.string ⟨s.toArray⟩) (.int .i64 ((s.length : Int) - 1))).run Tryd.prog W = .ok (.int .u8 115) W := last_run s 115 hl
  have hz : (⟨s.toArray⟩ : ByteArray).size = s.length := by simp [ByteArray.size]
  have s0 : 0 < s.length := by cases s with | nil => simp at hl | cons _ _ => simp
  have s1 : 0 < (s.length : Int) := by omega
  have hsl := init_run s s0
  have tl : s.dropLast.length ≤ 900 := by rw [List.length_dropLast]; omega
  clear hl
  have B := Lib.hid (Blk2.new w 0 0 44)
  go_enter Tryd.func23, Tryd.ntmps23
  go_wp2_with (go_at_call 20; ((with_reducible refine (rspan_is s.dropLast n 0 _ tl h).mono ?_)); rintro e w1 ⟨rfl, k1⟩; simp only []
               have B1 := Lib.hid (B.out.next k1)
               have lt := B1.out.lt
               have c0 := B1.out.c0
               have c1 := B1.out.c1
               have f0 := B1.out.f0
               have f1 := B1.out.f1)
  refine ((Blk2.new w 0 0 44).next k1).store n 1 |>.ret fun W' B3 => ?_
  clear lt c0 c1 f0 f1
  have c0 := B3.c0
  have c1 := B3.c1
  exact bodyPost_ret (v := .tuple #[.agg #[.int .i64 n, .int .i64 1], .int .i64 0]) (by simp [results, Tryd.results23, go_sem, c0, c1]) rfl ⟨rfl, B3.bel⟩

theorem rpar_s_er (s : List UInt8) (hs : s.length ≤ 900) (hl : s.getLast? = some 115) (n x : Int) (w : World) (h : Hid (spanN s.dropLast = n ∧ spanE s.dropLast = x)) (hx : x ≠ 0) :
    Calls Tryd.prog 23 #[.string ⟨s.toArray⟩] w fun e w' => e = .returned (.tuple #[.agg #[.int .i64 0, .int .i64 0], .int .i64 x]) ∧ Below w.heap.size w w' := by
  have hix : ∀ W : World, (Instr.index 9 (.string ⟨s.toArray⟩) (.int .i64 ((s.length : Int) - 1))).run Tryd.prog W = .ok (.int .u8 115) W := last_run s 115 hl
  have hz : (⟨s.toArray⟩ : ByteArray).size = s.length := by simp [ByteArray.size]
  have s0 : 0 < s.length := by cases s with | nil => simp at hl | cons _ _ => simp
  have s1 : 0 < (s.length : Int) := by omega
  have hsl := init_run s s0
  have tl : s.dropLast.length ≤ 900 := by rw [List.length_dropLast]; omega
  clear hl
  have B := Lib.hid (Blk2.new w 0 0 44)
  go_enter Tryd.func23, Tryd.ntmps23
  go_wp2_with (go_at_call 20; ((with_reducible refine (rspan_is s.dropLast n x _ tl h).mono ?_)); rintro e w1 ⟨rfl, k1⟩; simp only []
               have B1 := Lib.hid (B.out.next k1)
               have lt := B1.out.lt
               have c0 := B1.out.c0
               have c1 := B1.out.c1
               have f0 := B1.out.f0
               have f1 := B1.out.f1)
  refine ((Blk2.new w 0 0 44).next k1).store 0 0 |>.ret fun W' B3 => ?_
  clear lt c0 c1 f0 f1
  have c0 := B3.c0
  have c1 := B3.c1
  exact bodyPost_ret (v := .tuple #[.agg #[.int .i64 0, .int .i64 0], .int .i64 x]) (by simp [results, Tryd.results23, go_sem, c0, c1]) rfl ⟨rfl, B3.bel⟩

theorem rpar_u_ok (s : List UInt8) (hs : s.length ≤ 900) (hl : s.getLast? = some 117) (n : Int) (w : World) (h : Hid (spanN s.dropLast = n ∧ spanE s.dropLast = 0)) :
    Calls Tryd.prog 23 #[.string ⟨s.toArray⟩] w fun e w' => e = .returned (.tuple #[.agg #[.int .i64 n, .int .i64 2], .int .i64 0]) ∧ Below w.heap.size w w' := by
  have hix : ∀ W : World, (Instr.index 9 (.string ⟨s.toArray⟩) (.int .i64 ((s.length : Int) - 1))).run Tryd.prog W = .ok (.int .u8 117) W := last_run s 117 hl
  have hz : (⟨s.toArray⟩ : ByteArray).size = s.length := by simp [ByteArray.size]
  have s0 : 0 < s.length := by cases s with | nil => simp at hl | cons _ _ => simp
  have s1 : 0 < (s.length : Int) := by omega
  have hsl := init_run s s0
  have tl : s.dropLast.length ≤ 900 := by rw [List.length_dropLast]; omega
  clear hl
  have B := Lib.hid (Blk2.new w 0 0 44)
  go_enter Tryd.func23, Tryd.ntmps23
  go_wp2_with (go_at_call 20; ((with_reducible refine (rspan_is s.dropLast n 0 _ tl h).mono ?_)); rintro e w1 ⟨rfl, k1⟩; simp only []
               have B1 := Lib.hid (B.out.next k1)
               have lt := B1.out.lt
               have c0 := B1.out.c0
               have c1 := B1.out.c1
               have f0 := B1.out.f0
               have f1 := B1.out.f1)
  refine ((Blk2.new w 0 0 44).next k1).store n 2 |>.ret fun W' B3 => ?_
  clear lt c0 c1 f0 f1
  have c0 := B3.c0
  have c1 := B3.c1
  exact bodyPost_ret (v := .tuple #[.agg #[.int .i64 n, .int .i64 2], .int .i64 0]) (by simp [results, Tryd.results23, go_sem, c0, c1]) rfl ⟨rfl, B3.bel⟩

theorem rpar_u_er (s : List UInt8) (hs : s.length ≤ 900) (hl : s.getLast? = some 117) (n x : Int) (w : World) (h : Hid (spanN s.dropLast = n ∧ spanE s.dropLast = x)) (hx : x ≠ 0) :
    Calls Tryd.prog 23 #[.string ⟨s.toArray⟩] w fun e w' => e = .returned (.tuple #[.agg #[.int .i64 0, .int .i64 0], .int .i64 x]) ∧ Below w.heap.size w w' := by
  have hix : ∀ W : World, (Instr.index 9 (.string ⟨s.toArray⟩) (.int .i64 ((s.length : Int) - 1))).run Tryd.prog W = .ok (.int .u8 117) W := last_run s 117 hl
  have hz : (⟨s.toArray⟩ : ByteArray).size = s.length := by simp [ByteArray.size]
  have s0 : 0 < s.length := by cases s with | nil => simp at hl | cons _ _ => simp
  have s1 : 0 < (s.length : Int) := by omega
  have hsl := init_run s s0
  have tl : s.dropLast.length ≤ 900 := by rw [List.length_dropLast]; omega
  clear hl
  have B := Lib.hid (Blk2.new w 0 0 44)
  go_enter Tryd.func23, Tryd.ntmps23
  go_wp2_with (go_at_call 20; ((with_reducible refine (rspan_is s.dropLast n x _ tl h).mono ?_)); rintro e w1 ⟨rfl, k1⟩; simp only []
               have B1 := Lib.hid (B.out.next k1)
               have lt := B1.out.lt
               have c0 := B1.out.c0
               have c1 := B1.out.c1
               have f0 := B1.out.f0
               have f1 := B1.out.f1)
  refine ((Blk2.new w 0 0 44).next k1).store 0 0 |>.ret fun W' B3 => ?_
  clear lt c0 c1 f0 f1
  have c0 := B3.c0
  have c1 := B3.c1
  exact bodyPost_ret (v := .tuple #[.agg #[.int .i64 0, .int .i64 0], .int .i64 x]) (by simp [results, Tryd.results23, go_sem, c0, c1]) rfl ⟨rfl, B3.bel⟩

theorem rpar_g_ok (s : List UInt8) (hs : s.length ≤ 900) (hl : s.getLast? = some 103) (n : Int) (w : World) (h : Hid (spanN s.dropLast = n ∧ spanE s.dropLast = 0)) :
    Calls Tryd.prog 23 #[.string ⟨s.toArray⟩] w fun e w' => e = .returned (.tuple #[.agg #[.int .i64 n, .int .i64 2], .int .i64 0]) ∧ Below w.heap.size w w' := by
  have hix : ∀ W : World, (Instr.index 9 (.string ⟨s.toArray⟩) (.int .i64 ((s.length : Int) - 1))).run Tryd.prog W = .ok (.int .u8 103) W := last_run s 103 hl
  have hz : (⟨s.toArray⟩ : ByteArray).size = s.length := by simp [ByteArray.size]
  have s0 : 0 < s.length := by cases s with | nil => simp at hl | cons _ _ => simp
  have s1 : 0 < (s.length : Int) := by omega
  have hsl := init_run s s0
  have tl : s.dropLast.length ≤ 900 := by rw [List.length_dropLast]; omega
  clear hl
  have B := Lib.hid (Blk2.new w 0 0 44)
  go_enter Tryd.func23, Tryd.ntmps23
  go_wp2_with (go_at_call 20; ((with_reducible refine (rspan_is s.dropLast n 0 _ tl h).mono ?_)); rintro e w1 ⟨rfl, k1⟩; simp only []
               have B1 := Lib.hid (B.out.next k1)
               have lt := B1.out.lt
               have c0 := B1.out.c0
               have c1 := B1.out.c1
               have f0 := B1.out.f0
               have f1 := B1.out.f1)
  refine ((Blk2.new w 0 0 44).next k1).store n 2 |>.ret fun W' B3 => ?_
  clear lt c0 c1 f0 f1
  have c0 := B3.c0
  have c1 := B3.c1
  exact bodyPost_ret (v := .tuple #[.agg #[.int .i64 n, .int .i64 2], .int .i64 0]) (by simp [results, Tryd.results23, go_sem, c0, c1]) rfl ⟨rfl, B3.bel⟩

theorem rpar_g_er (s : List UInt8) (hs : s.length ≤ 900) (hl : s.getLast? = some 103) (n x : Int) (w : World) (h : Hid (spanN s.dropLast = n ∧ spanE s.dropLast = x)) (hx : x ≠ 0) :
    Calls Tryd.prog 23 #[.string ⟨s.toArray⟩] w fun e w' => e = .returned (.tuple #[.agg #[.int .i64 0, .int .i64 0], .int .i64 x]) ∧ Below w.heap.size w w' := by
  have hix : ∀ W : World, (Instr.index 9 (.string ⟨s.toArray⟩) (.int .i64 ((s.length : Int) - 1))).run Tryd.prog W = .ok (.int .u8 103) W := last_run s 103 hl
  have hz : (⟨s.toArray⟩ : ByteArray).size = s.length := by simp [ByteArray.size]
  have s0 : 0 < s.length := by cases s with | nil => simp at hl | cons _ _ => simp
  have s1 : 0 < (s.length : Int) := by omega
  have hsl := init_run s s0
  have tl : s.dropLast.length ≤ 900 := by rw [List.length_dropLast]; omega
  clear hl
  have B := Lib.hid (Blk2.new w 0 0 44)
  go_enter Tryd.func23, Tryd.ntmps23
  go_wp2_with (go_at_call 20; ((with_reducible refine (rspan_is s.dropLast n x _ tl h).mono ?_)); rintro e w1 ⟨rfl, k1⟩; simp only []
               have B1 := Lib.hid (B.out.next k1)
               have lt := B1.out.lt
               have c0 := B1.out.c0
               have c1 := B1.out.c1
               have f0 := B1.out.f0
               have f1 := B1.out.f1)
  refine ((Blk2.new w 0 0 44).next k1).store 0 0 |>.ret fun W' B3 => ?_
  clear lt c0 c1 f0 f1
  have c0 := B3.c0
  have c1 := B3.c1
  exact bodyPost_ret (v := .tuple #[.agg #[.int .i64 0, .int .i64 0], .int .i64 x]) (by simp [results, Tryd.results23, go_sem, c0, c1]) rfl ⟨rfl, B3.bel⟩

theorem rpar_z_ok (s : List UInt8) (hs : s.length ≤ 900) (hl : s.getLast? = some 122) (n : Int) (w : World) (h : Hid (spanN s.dropLast = n ∧ spanE s.dropLast = 0)) :
    Calls Tryd.prog 23 #[.string ⟨s.toArray⟩] w fun e w' => e = .returned (.tuple #[.agg #[.int .i64 n, .int .i64 2], .int .i64 0]) ∧ Below w.heap.size w w' := by
  have hix : ∀ W : World, (Instr.index 9 (.string ⟨s.toArray⟩) (.int .i64 ((s.length : Int) - 1))).run Tryd.prog W = .ok (.int .u8 122) W := last_run s 122 hl
  have hz : (⟨s.toArray⟩ : ByteArray).size = s.length := by simp [ByteArray.size]
  have s0 : 0 < s.length := by cases s with | nil => simp at hl | cons _ _ => simp
  have s1 : 0 < (s.length : Int) := by omega
  have hsl := init_run s s0
  have tl : s.dropLast.length ≤ 900 := by rw [List.length_dropLast]; omega
  clear hl
  have B := Lib.hid (Blk2.new w 0 0 44)
  go_enter Tryd.func23, Tryd.ntmps23
  go_wp2_with (go_at_call 20; ((with_reducible refine (rspan_is s.dropLast n 0 _ tl h).mono ?_)); rintro e w1 ⟨rfl, k1⟩; simp only []
               have B1 := Lib.hid (B.out.next k1)
               have lt := B1.out.lt
               have c0 := B1.out.c0
               have c1 := B1.out.c1
               have f0 := B1.out.f0
               have f1 := B1.out.f1)
  refine ((Blk2.new w 0 0 44).next k1).store n 2 |>.ret fun W' B3 => ?_
  clear lt c0 c1 f0 f1
  have c0 := B3.c0
  have c1 := B3.c1
  exact bodyPost_ret (v := .tuple #[.agg #[.int .i64 n, .int .i64 2], .int .i64 0]) (by simp [results, Tryd.results23, go_sem, c0, c1]) rfl ⟨rfl, B3.bel⟩

theorem rpar_z_er (s : List UInt8) (hs : s.length ≤ 900) (hl : s.getLast? = some 122) (n x : Int) (w : World) (h : Hid (spanN s.dropLast = n ∧ spanE s.dropLast = x)) (hx : x ≠ 0) :
    Calls Tryd.prog 23 #[.string ⟨s.toArray⟩] w fun e w' => e = .returned (.tuple #[.agg #[.int .i64 0, .int .i64 0], .int .i64 x]) ∧ Below w.heap.size w w' := by
  have hix : ∀ W : World, (Instr.index 9 (.string ⟨s.toArray⟩) (.int .i64 ((s.length : Int) - 1))).run Tryd.prog W = .ok (.int .u8 122) W := last_run s 122 hl
  have hz : (⟨s.toArray⟩ : ByteArray).size = s.length := by simp [ByteArray.size]
  have s0 : 0 < s.length := by cases s with | nil => simp at hl | cons _ _ => simp
  have s1 : 0 < (s.length : Int) := by omega
  have hsl := init_run s s0
  have tl : s.dropLast.length ≤ 900 := by rw [List.length_dropLast]; omega
  clear hl
  have B := Lib.hid (Blk2.new w 0 0 44)
  go_enter Tryd.func23, Tryd.ntmps23
  go_wp2_with (go_at_call 20; ((with_reducible refine (rspan_is s.dropLast n x _ tl h).mono ?_)); rintro e w1 ⟨rfl, k1⟩; simp only []
               have B1 := Lib.hid (B.out.next k1)
               have lt := B1.out.lt
               have c0 := B1.out.c0
               have c1 := B1.out.c1
               have f0 := B1.out.f0
               have f1 := B1.out.f1)
  refine ((Blk2.new w 0 0 44).next k1).store 0 0 |>.ret fun W' B3 => ?_
  clear lt c0 c1 f0 f1
  have c0 := B3.c0
  have c1 := B3.c1
  exact bodyPost_ret (v := .tuple #[.agg #[.int .i64 0, .int .i64 0], .int .i64 x]) (by simp [results, Tryd.results23, go_sem, c0, c1]) rfl ⟨rfl, B3.bel⟩

theorem rparse_any (s : List UInt8) (w : World) (hs : s.length ≤ 900) :
    Calls Tryd.prog 23 #[.string ⟨s.toArray⟩] w fun e w' => e = .returned (.tuple #[.agg #[.int .i64 (parN s), .int .i64 (parK s)], .int .i64 (parE s)]) ∧ Below w.heap.size w w' := by
  have ok : ∀ {k : Int} {t : List UInt8}, kS s = t → kN s = k → spanE t = 0 → parN s = spanN t ∧ parK s = k ∧ parE s = 0 := by
    intro k t h1 h2 h3
    rw [parN, parK, parE, h1, h2, h3]; exact ⟨rfl, rfl, rfl⟩
  have er : ∀ {t : List UInt8}, kS s = t → spanE t ≠ 0 → parN s = 0 ∧ parK s = 0 ∧ parE s = spanE t := by
    intro t h1 h3
    rw [parN, parK, parE, h1, if_neg h3, if_neg h3]; exact ⟨rfl, rfl, rfl⟩
  cases hl : s.getLast? with
  | none =>
    have hs0 : s = [] := by simpa using hl
    subst hs0
    have := er (t := []) (by decide) (by decide)
    rw [this.1, this.2.1, this.2.2]
    exact rpar_nil_er _ _ w (Lib.hid ⟨rfl, rfl⟩) (by decide)
  | some c =>
    have J : kJ s = if c = 119 then 0 else if c = 115 then 1 else if c = 117 then 2 else if c = 103 then 3 else if c = 122 then 4 else 5 := by
      unfold kJ; simp only [hl, Option.some.injEq]
    by_cases n0 : c = 119
    · subst n0
      have j : kJ s = 0 := by rw [J]; rfl
      have e1 : kS s = s.dropLast := by rw [kS, j]; rfl
      have e2 : kN s = 0 := by rw [kN, j]; rfl
      by_cases hx : spanE s.dropLast = 0
      · have := ok e1 e2 hx
        rw [this.1, this.2.1, this.2.2]
        exact rpar_w_ok s hs hl _ w (Lib.hid ⟨rfl, hx⟩)
      · have := er e1 hx
        rw [this.1, this.2.1, this.2.2]
        exact rpar_w_er s hs hl _ _ w (Lib.hid ⟨rfl, rfl⟩) hx
    by_cases n1 : c = 115
    · subst n1
      have j : kJ s = 1 := by rw [J]; rfl
      have e1 : kS s = s.dropLast := by rw [kS, j]; rfl
      have e2 : kN s = 1 := by rw [kN, j]; rfl
      by_cases hx : spanE s.dropLast = 0
      · have := ok e1 e2 hx
        rw [this.1, this.2.1, this.2.2]
        exact rpar_s_ok s hs hl _ w (Lib.hid ⟨rfl, hx⟩)
      · have := er e1 hx
        rw [this.1, this.2.1, this.2.2]
        exact rpar_s_er s hs hl _ _ w (Lib.hid ⟨rfl, rfl⟩) hx
    by_cases n2 : c = 117
    · subst n2
      have j : kJ s = 2 := by rw [J]; rfl
      have e1 : kS s = s.dropLast := by rw [kS, j]; rfl
      have e2 : kN s = 2 := by rw [kN, j]; rfl
      by_cases hx : spanE s.dropLast = 0
      · have := ok e1 e2 hx
        rw [this.1, this.2.1, this.2.2]
        exact rpar_u_ok s hs hl _ w (Lib.hid ⟨rfl, hx⟩)
      · have := er e1 hx
        rw [this.1, this.2.1, this.2.2]
        exact rpar_u_er s hs hl _ _ w (Lib.hid ⟨rfl, rfl⟩) hx
    by_cases n3 : c = 103
    · subst n3
      have j : kJ s = 3 := by rw [J]; rfl
      have e1 : kS s = s.dropLast := by rw [kS, j]; rfl
      have e2 : kN s = 2 := by rw [kN, j]; rfl
      by_cases hx : spanE s.dropLast = 0
      · have := ok e1 e2 hx
        rw [this.1, this.2.1, this.2.2]
        exact rpar_g_ok s hs hl _ w (Lib.hid ⟨rfl, hx⟩)
      · have := er e1 hx
        rw [this.1, this.2.1, this.2.2]
        exact rpar_g_er s hs hl _ _ w (Lib.hid ⟨rfl, rfl⟩) hx
    by_cases n4 : c = 122
    · subst n4
      have j : kJ s = 4 := by rw [J]; rfl
      have e1 : kS s = s.dropLast := by rw [kS, j]; rfl
      have e2 : kN s = 2 := by rw [kN, j]; rfl
      by_cases hx : spanE s.dropLast = 0
      · have := ok e1 e2 hx
        rw [this.1, this.2.1, this.2.2]
        exact rpar_z_ok s hs hl _ w (Lib.hid ⟨rfl, hx⟩)
      · have := er e1 hx
        rw [this.1, this.2.1, this.2.2]
        exact rpar_z_er s hs hl _ _ w (Lib.hid ⟨rfl, rfl⟩) hx
    have j : kJ s = 5 := by rw [J, if_neg n0, if_neg n1, if_neg n2, if_neg n3, if_neg n4]
    have e1 : kS s = s := by rw [kS, j]; rfl
    have e2 : kN s = 0 := by rw [kN, j]; rfl
    by_cases hx : spanE s = 0
    · have := ok e1 e2 hx
      rw [this.1, this.2.1, this.2.2]
      exact rpar_o_ok c s hs hl n0 n1 n2 n3 n4 _ w (Lib.hid ⟨rfl, hx⟩)
    · have := er e1 hx
      rw [this.1, this.2.1, this.2.2]
      exact rpar_o_er c s hs hl n0 n1 n2 n3 n4 _ _ w (Lib.hid ⟨rfl, rfl⟩) hx
end Go.Proofs.YtjafbopmedbhcaaDoor

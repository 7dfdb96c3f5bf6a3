/- The contract of civil.Print: what it returns, for every date; nothing that was in memory changes. The tables of days ahead of months and of powers of ten read as they are laid. -/
import Derived.Test.YtnedpflebkcdoaaDoorPrB
namespace Go.Proofs.YtnedpflebkcdoaaDoor
open Go.RowKit

theorem Boxed.from_ {w w' w2 : World} {g0 g : Nat} {y m d : Int} (h : Boxed w g0 y m d w') (k : Below g w' w2) (hg : g0 < g) (hw : w.heap.size ≤ g) : Boxed w g0 y m d w2 :=
  ⟨h.bel.trans (k.mono hw), Nat.lt_of_lt_of_le h.lt k.size, by rw [k.cell hg]; exact h.c0, by rw [k.cell hg]; exact h.c1, by rw [k.cell hg]; exact h.c2⟩

theorem text_string {g c : Nat} {A : Option Addr} {l : List UInt8} {W : World} (h : TextAt g A c l W) (h0 : 0 < l.length) : (convert 47 9 (.slice A l.length c)).run Tryd.prog W = .ok (.string ⟨l.toArray⟩) W := by
  obtain ⟨g', cap, hv, _, _⟩ := h.own.form h0
  have hA : A = some ⟨g', 0, none⟩ := by injection hv
  subst hA
  exact run_convert_bytes_back W _ _ 5 ⟨g', 0, none⟩ c l Tryd.underlying47 Tryd.underlying5 Tryd.underlying9 (fun j hj => h.own.cells (g := g') rfl j _ (by simp [bcl, hj]))

theorem Print_no (y m d : Int) (w : World) (ht : AhAt w) (h : ¬ okD y m d) :
    Calls Tryd.prog 20 #[.agg #[.int .i64 y, .int .i64 m, .int .i64 d]] w fun e w' => e = .returned (.tuple #[.string ⟨#[]⟩, .int .i64 10]) ∧ Below w.heap.size w w' := by
  have T := Lib.hid (Boxed.new w y m d 23)
  have HT := Lib.hid (ht.next T.out.bel)
  have hk : ckE y m d = 10 := ckE_no h
  clear ht h
  go_enter Tryd.func20, Tryd.ntmps20
  go_wp2_with (first
    | (go_at_call 12; refine (check_any _ _ _ _ HT.out).mono ?_; rintro e w1 ⟨rfl, k1⟩
       have T1 := Lib.hid (T.out.next k1)
       clear T k1))
  go_ret2
  exact ⟨rfl, T1.out.bel⟩

/-- One byte behind the text, as the walk takes it; n and m are the lengths as they stand in the frame. -/
theorem wpList_push1 {w : World} {ops : Array Oper} {rest : List Oper} {o : Oper} {a : Act} {Q : Exit → Act → World → Prop} (hgd : o.guard = none) (s x : Operand)
    (ho : o.op = .call { callee := .builtin .append, args := #[s, x], argTypes := #[47, 47] }) {g n m c : Nat} {A : Option Addr} {l : List UInt8} (hn : l.length = n) (hm : n + 1 = m) (X : TextAt g A c l w)
    (hs : a.eval s = .slice A n c) (ad : Addr) (b : UInt8) (hx : a.eval x = .slice (some ad) 1 1) (hb : w.cell? ad = some (.int .u8 (b.toNat : Int))) (hl : n ≤ 100000)
    (h : ∀ A' c' w', TextIs g (l ++ [b]) (w'.setCell ⟨g, 0, none⟩ (.slice A' m c')) → Below g w (w'.setCell ⟨g, 0, none⟩ (.slice A' m c')) → w'.cell? ⟨g, 0, none⟩ = some (.slice A n c) → w'.frozen? ⟨g, 0, none⟩ = false → wpList Tryd.prog ops Q rest (a.put o.dst (.slice A' m c')) w') : wpList Tryd.prog ops Q (o :: rest) a w := by
  obtain ⟨i0, hi0, hz0, hz1, hz2⟩ := info_parts uint8_info
  subst hn hm
  refine wpList_append_own_at _ hgd s x _ ho (g + 1) 5 i0 _ 1 1 Tryd.underlying47 hi0 hz0 hz1 hz2 rfl (by omega) (.slice A l.length c) l.length (bcl l) hs X.own ad 1 1 (bcl [b]) hx rfl (by intro j u hu; rcases j with _ | j <;> simp [bcl] at hu; subst hu; simpa [Addr.add] using hb) (bcl_one _) (by simp only [maxLen]; omega) (by omega) X.lt ?_
  intro v' w' hown hg _ _
  obtain ⟨p1, p2, p3, p4⟩ := X.push (x := [b]) (by simpa [bcl] using hown) hg
  obtain ⟨A', c', rfl⟩ := own_form hown
  exact h A' c' w' p1 p2 p3 p4

set_option maxHeartbeats 3200000 in
theorem Print_nat (Y M D : Nat) (w : World) (ht : AhAt w) (hp : PowAt w) (h : okD Y M D) :
    Calls Tryd.prog 20 #[.agg #[.int .i64 Y, .int .i64 M, .int .i64 D]] w fun e w' => e = .returned (.tuple #[.string ⟨(dateL Y M D).toArray⟩, .int .i64 0]) ∧ Below w.heap.size w w' := by
  obtain ⟨i0, hi0, hz0, hz1, hz2⟩ := info_parts uint8_info
  have T := Lib.hid (Boxed.new w Y M D 23)
  have hmf : ∀ (fn : Fn) (first cap : Array Value) (w : World), (Instr.makeFunc fn first cap).run Tryd.prog w = .ok (.func fn first cap) w := fun _ _ _ _ => rfl
  have HT := Lib.hid (ht.next T.out.bel)
  have HP := Lib.hid hp
  have hk : ckE Y M D = 0 := ckE_yes h
  have db := dim_bd Y M h.2.2.1 h.2.2.2.1
  have hY : Y < 10000000 := by have := h.1; have := h.2.1; omega
  have hM : M < 10000000 := by have := h.2.2.2.1; omega
  have hD : D < 10000000 := by have := h.2.2.2.2.2; omega

  clear ht hp h db
  go_enter Tryd.func20, Tryd.ntmps20
  go_wp2_with (first
    | (go_at_call 12; refine (check_any _ _ _ _ HT.out).mono ?_; rintro e w1 ⟨rfl, k1⟩
       have T1 := Lib.hid (T.out.next k1)
       clear T k1
       have c0 := T1.out.c0
       have lt := T1.out.lt))
  have T2 := Lib.hid (T1.out.next ((Below.refl _ _).alloc (Nat.le_refl _) (.cells #[.slice none 0 0] 47)))
  clear T1 HT
  clear c0
  refine (dig_any Y 4 w1.heap.size ([] : List UInt8) _ hY (by omega) (by omega) (by simp) (HP.out.next T2.out.bel) (TextIs.new w1)).mono ?_
  rintro e w2 ⟨rfl, x2, b2⟩
  have T4 := Lib.hid (T2.out.from_ b2 lt (by omega))
  clear b2 T2
  have l2 := pd_len 4 Y (by omega) (by omega) hY
  generalize hx : ([] : List UInt8) ++ pd 4 Y = L at x2
  have HXL := Lib.hid hx
  have hL : L.length ≤ 8 := by rw [← hx]; simp only [List.length_append, List.length_nil]; omega
  clear hx l2
  obtain ⟨A, c, X⟩ := x2
  have hc := X.cell
  have hf := X.frozen
  have hlt := X.lt
  have c1 := T4.out.c1
  have X1 := Lib.hid (X.next ((Below.refl _ _).alloc (Nat.le_refl _) (.cells #[.int .u8 45] 5)))
  clear X
  go_wp2_with (first
    | (at_builtin
       refine wpList_append_own_at _ (by rfl) (.tmp 26) (.tmp 27) _ (by rfl) (w1.heap.size + 1) 5 i0 _ 1 1 Tryd.underlying47 hi0 hz0 hz1 hz2 rfl (by omega) (.slice A L.length c) L.length (bcl L) (by rfl) X1.out.own ⟨w2.heap.size, 0, none⟩ 1 1 (bcl [45]) (by rfl) (by rfl) (by intro j u hu; rcases j with _ | j <;> simp [bcl] at hu; subst hu; simp [Addr.add]) (bcl_one _) (by simp only [maxLen]; omega) (by omega) (by simp; omega) ?_
       intro v3 w3 hown hg _ _
       obtain ⟨A3, c3, rfl⟩ := own_form hown
       obtain ⟨p1, p2, p3, p4⟩ := X1.out.push (x := [45]) (by simpa [bcl] using hown) hg
       have P1 := Lib.hid p1
       have T5 := Lib.hid ((T4.out.next ((Below.refl _ _).alloc (Nat.le_refl _) (.cells #[.int .u8 45] 5))).from_ p2 lt (by omega))
       clear p1 p2 hown hg X1 T4 c1 hc hf hlt
       have c1 := T5.out.c1))
  refine (dig_any M 2 w1.heap.size (L ++ [45]) _ hM (by omega) (by omega) (by simp; omega) (HP.out.next T5.out.bel) P1.out).mono ?_
  rintro e w4 ⟨rfl, x2, b2⟩
  have T6 := Lib.hid (T5.out.from_ b2 lt (by omega))
  clear b2 T5
  have l2 := pd_len 2 M (by omega) (by omega) hM
  generalize hx : (L ++ [45]) ++ pd 2 M = L4 at x2
  have HXL4 := Lib.hid hx
  have hL4 : L4.length ≤ 20 := by rw [← hx]; simp only [List.length_append, List.length_singleton]; omega
  clear hx l2
  obtain ⟨A4, c4, X⟩ := x2
  have hc := X.cell
  have hf := X.frozen
  have hlt := X.lt
  have c2 := T6.out.c2
  have X1 := Lib.hid (X.next ((Below.refl _ _).alloc (Nat.le_refl _) (.cells #[.int .u8 45] 5)))
  clear X
  go_wp2_with (first
    | (at_builtin
       refine wpList_append_own_at _ (by rfl) (.tmp 33) (.tmp 34) _ (by rfl) (w1.heap.size + 1) 5 i0 _ 1 1 Tryd.underlying47 hi0 hz0 hz1 hz2 rfl (by omega) (.slice A4 L4.length c4) L4.length (bcl L4) (by rfl) X1.out.own ⟨w4.heap.size, 0, none⟩ 1 1 (bcl [45]) (by rfl) (by rfl) (by intro j u hu; rcases j with _ | j <;> simp [bcl] at hu; subst hu; simp [Addr.add]) (bcl_one _) (by simp only [maxLen]; omega) (by omega) (by simp; omega) ?_
       intro v5 w5 hown hg _ _
       obtain ⟨A5, c5, rfl⟩ := own_form hown
       obtain ⟨p1, p2, p3, p4⟩ := X1.out.push (x := [45]) (by simpa [bcl] using hown) hg
       have P2 := Lib.hid p1
       have T7 := Lib.hid ((T6.out.next ((Below.refl _ _).alloc (Nat.le_refl _) (.cells #[.int .u8 45] 5))).from_ p2 lt (by omega))
       clear p1 p2 hown hg X1 T6 c1 c2 hc hf hlt
       have c2 := T7.out.c2))
  refine (dig_any D 2 w1.heap.size (L4 ++ [45]) _ hD (by omega) (by omega) (by simp; omega) (HP.out.next T7.out.bel) P2.out).mono ?_
  rintro e w6 ⟨rfl, x2, b2⟩
  have T8 := Lib.hid (T7.out.from_ b2 lt (by omega))
  clear b2 T7
  have l2 := pd_len 2 D (by omega) (by omega) hD
  generalize hx : (L4 ++ [45]) ++ pd 2 D = L6 at x2
  have HXL6 := Lib.hid hx
  have hL6 : L6.length ≤ 40 := by rw [← hx]; simp only [List.length_append, List.length_singleton]; omega
  clear hx l2
  obtain ⟨A6, c6, X⟩ := x2
  have hc := X.cell
  have hf := X.frozen
  have hlt := X.lt
  have l2 : 0 < L6.length := by rw [← HXL6.out]; simp only [List.length_append, List.length_singleton]; omega
  have hcv := text_string X l2
  go_wp2
  go_ret2
  have E : dateL Y M D = L6 := by rw [dateL_nat, ← HXL6.out, ← HXL4.out, ← HXL.out]
  rw [E]
  exact ⟨rfl, T8.out.bel⟩

set_option maxHeartbeats 3200000 in
theorem Print_min (Y M D : Nat) (w : World) (ht : AhAt w) (hp : PowAt w) (h : okD (-(Y : Int)) M D) (hY0 : 0 < Y) :
    Calls Tryd.prog 20 #[.agg #[.int .i64 (-(Y : Int)), .int .i64 M, .int .i64 D]] w fun e w' => e = .returned (.tuple #[.string ⟨(dateL (-(Y : Int)) M D).toArray⟩, .int .i64 0]) ∧ Below w.heap.size w w' := by
  obtain ⟨i0, hi0, hz0, hz1, hz2⟩ := info_parts uint8_info
  have T := Lib.hid (Boxed.new w (-(Y : Int)) M D 23)
  have hmf : ∀ (fn : Fn) (first cap : Array Value) (w : World), (Instr.makeFunc fn first cap).run Tryd.prog w = .ok (.func fn first cap) w := fun _ _ _ _ => rfl
  have HT := Lib.hid (ht.next T.out.bel)
  have HP := Lib.hid hp
  have hk : ckE (-(Y : Int)) M D = 0 := ckE_yes h
  have db := dim_bd (-(Y : Int)) M h.2.2.1 h.2.2.2.1
  have hY : Y < 10000000 := by have := h.1; have := h.2.1; omega
  have hM : M < 10000000 := by have := h.2.2.2.1; omega
  have hD : D < 10000000 := by have := h.2.2.2.2.2; omega
  have hY1 : (0 : Int) < (Y : Int) := by omega
  clear ht hp h db
  go_enter Tryd.func20, Tryd.ntmps20
  go_wp2_with (first
    | (go_at_call 12; refine (check_any _ _ _ _ HT.out).mono ?_; rintro e w1 ⟨rfl, k1⟩
       have T1 := Lib.hid (T.out.next k1)
       clear T k1
       have c0 := T1.out.c0
       have lt := T1.out.lt)
    | (at_builtin
       have T2 := Lib.hid (T1.out.next ((Below.refl _ _).alloc (Nat.le_refl _) (.cells #[.slice none 0 0] 47)))
       have X1 : Hid (TextAt w1.heap.size none 0 [] ((w1.alloc (.cells #[.slice none 0 0] 47)).alloc (.cells #[.int .u8 45] 5))) := (TextAt.new w1).next ((Below.refl _ _).alloc (Nat.le_refl _) _)
       refine wpList_push1 (by rfl) (.tmp 18) (.tmp 19) (by rfl) (n := 0) (m := 1) rfl rfl X1.out (by rfl) ⟨w1.heap.size + 1, 0, none⟩ 45 (by rfl) (by simp) (by omega) ?_
       intro A9 c9 w9 p1 p2 p3 p4
       have P0 := Lib.hid p1
       have T3 := Lib.hid ((T2.out.next ((Below.refl _ _).alloc (Nat.le_refl _) (.cells #[.int .u8 45] 5))).from_ p2 lt (by omega))
       clear p1 p2 X1 T2 c0 T1 HT
       have c1 := T3.out.c1))
  refine (dig_any Y 4 w1.heap.size ([] ++ [45]) _ hY (by omega) (by omega) (by simp) (HP.out.next T3.out.bel) P0.out).mono ?_
  rintro e w2 ⟨rfl, x2, b2⟩
  have T4 := Lib.hid (T3.out.from_ b2 lt (by omega))
  clear b2 T3
  have l2 := pd_len 4 Y (by omega) (by omega) hY
  generalize hx : ([] ++ [45]) ++ pd 4 Y = L at x2
  have HXL := Lib.hid hx
  have hL : L.length ≤ 8 := by rw [← hx]; simp only [List.length_append, List.length_singleton, List.length_nil]; omega
  clear hx l2
  obtain ⟨A, c, X⟩ := x2
  have hc := X.cell
  have hf := X.frozen
  have hlt := X.lt
  have c1 := T4.out.c1
  have X1 := Lib.hid (X.next ((Below.refl _ _).alloc (Nat.le_refl _) (.cells #[.int .u8 45] 5)))
  clear X
  go_wp2_with (first
    | (at_builtin
       refine wpList_append_own_at _ (by rfl) (.tmp 26) (.tmp 27) _ (by rfl) (w1.heap.size + 1) 5 i0 _ 1 1 Tryd.underlying47 hi0 hz0 hz1 hz2 rfl (by omega) (.slice A L.length c) L.length (bcl L) (by rfl) X1.out.own ⟨w2.heap.size, 0, none⟩ 1 1 (bcl [45]) (by rfl) (by rfl) (by intro j u hu; rcases j with _ | j <;> simp [bcl] at hu; subst hu; simp [Addr.add]) (bcl_one _) (by simp only [maxLen]; omega) (by omega) (by simp; omega) ?_
       intro v3 w3 hown hg _ _
       obtain ⟨A3, c3, rfl⟩ := own_form hown
       obtain ⟨p1, p2, p3, p4⟩ := X1.out.push (x := [45]) (by simpa [bcl] using hown) hg
       have P1 := Lib.hid p1
       have T5 := Lib.hid ((T4.out.next ((Below.refl _ _).alloc (Nat.le_refl _) (.cells #[.int .u8 45] 5))).from_ p2 lt (by omega))
       clear p1 p2 hown hg X1 T4 c1 hc hf hlt
       have c1 := T5.out.c1))
  refine (dig_any M 2 w1.heap.size (L ++ [45]) _ hM (by omega) (by omega) (by simp; omega) (HP.out.next T5.out.bel) P1.out).mono ?_
  rintro e w4 ⟨rfl, x2, b2⟩
  have T6 := Lib.hid (T5.out.from_ b2 lt (by omega))
  clear b2 T5
  have l2 := pd_len 2 M (by omega) (by omega) hM
  generalize hx : (L ++ [45]) ++ pd 2 M = L4 at x2
  have HXL4 := Lib.hid hx
  have hL4 : L4.length ≤ 20 := by rw [← hx]; simp only [List.length_append, List.length_singleton]; omega
  clear hx l2
  obtain ⟨A4, c4, X⟩ := x2
  have hc := X.cell
  have hf := X.frozen
  have hlt := X.lt
  have c2 := T6.out.c2
  have X1 := Lib.hid (X.next ((Below.refl _ _).alloc (Nat.le_refl _) (.cells #[.int .u8 45] 5)))
  clear X
  go_wp2_with (first
    | (at_builtin
       refine wpList_append_own_at _ (by rfl) (.tmp 33) (.tmp 34) _ (by rfl) (w1.heap.size + 1) 5 i0 _ 1 1 Tryd.underlying47 hi0 hz0 hz1 hz2 rfl (by omega) (.slice A4 L4.length c4) L4.length (bcl L4) (by rfl) X1.out.own ⟨w4.heap.size, 0, none⟩ 1 1 (bcl [45]) (by rfl) (by rfl) (by intro j u hu; rcases j with _ | j <;> simp [bcl] at hu; subst hu; simp [Addr.add]) (bcl_one _) (by simp only [maxLen]; omega) (by omega) (by simp; omega) ?_
       intro v5 w5 hown hg _ _
       obtain ⟨A5, c5, rfl⟩ := own_form hown
       obtain ⟨p1, p2, p3, p4⟩ := X1.out.push (x := [45]) (by simpa [bcl] using hown) hg
       have P2 := Lib.hid p1
       have T7 := Lib.hid ((T6.out.next ((Below.refl _ _).alloc (Nat.le_refl _) (.cells #[.int .u8 45] 5))).from_ p2 lt (by omega))
       clear p1 p2 hown hg X1 T6 c1 c2 hc hf hlt
       have c2 := T7.out.c2))
  refine (dig_any D 2 w1.heap.size (L4 ++ [45]) _ hD (by omega) (by omega) (by simp; omega) (HP.out.next T7.out.bel) P2.out).mono ?_
  rintro e w6 ⟨rfl, x2, b2⟩
  have T8 := Lib.hid (T7.out.from_ b2 lt (by omega))
  clear b2 T7
  have l2 := pd_len 2 D (by omega) (by omega) hD
  generalize hx : (L4 ++ [45]) ++ pd 2 D = L6 at x2
  have HXL6 := Lib.hid hx
  have hL6 : L6.length ≤ 40 := by rw [← hx]; simp only [List.length_append, List.length_singleton]; omega
  clear hx l2
  obtain ⟨A6, c6, X⟩ := x2
  have hc := X.cell
  have hf := X.frozen
  have hlt := X.lt
  have l2 : 0 < L6.length := by rw [← HXL6.out]; simp only [List.length_append, List.length_singleton]; omega
  have hcv := text_string X l2
  go_wp2
  go_ret2
  have E : dateL (-(Y : Int)) M D = L6 := by rw [dateL_neg _ _ _ hY0, ← HXL6.out, ← HXL4.out, ← HXL.out]; rfl
  rw [E]
  exact ⟨rfl, T8.out.bel⟩

theorem Print_yes (y m d : Int) (w : World) (ht : AhAt w) (hp : PowAt w) (h : okD y m d) :
    Calls Tryd.prog 20 #[.agg #[.int .i64 y, .int .i64 m, .int .i64 d]] w fun e w' => e = .returned (.tuple #[.string ⟨(dateL y m d).toArray⟩, .int .i64 0]) ∧ Below w.heap.size w w' := by
  obtain ⟨M, rfl⟩ := Int.eq_ofNat_of_zero_le (show 0 ≤ m by have := h.2.2.1; omega)
  obtain ⟨D, rfl⟩ := Int.eq_ofNat_of_zero_le (show 0 ≤ d by have := h.2.2.2.2.1; omega)
  by_cases hy : 0 ≤ y
  · obtain ⟨Y, rfl⟩ := Int.eq_ofNat_of_zero_le hy
    exact Print_nat Y M D w ht hp h
  · obtain ⟨Y, hY⟩ := Int.eq_ofNat_of_zero_le (show 0 ≤ -y by omega)
    obtain rfl : y = -(Y : Int) := by omega
    exact Print_min Y M D w ht hp h (by omega)
end Go.Proofs.YtnedpflebkcdoaaDoor

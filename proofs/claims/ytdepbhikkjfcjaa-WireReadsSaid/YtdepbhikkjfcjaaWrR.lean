/- The contracts of the reference's Bits, Turned, Pieces and Fixed; nothing that was in memory changes. -/
import Derived.Maps.AppendAt
import Derived.LoopN
import Derived.Test.YtdepbhikkjfcjaaWrC
namespace Go.Proofs.Ytdepbhikkjfcjaa
open Go.RowKit Go.Shelf
attribute [local go_sem] Oper.semAt_some

def icl (l : List Nat) : List Value := l.map (fun b : Nat => Value.int .i64 (b : Int))
theorem icl_len (l : List Nat) : (icl l).length = l.length := by simp [icl]
theorem icl_app (l x : List Nat) : icl (l ++ x) = icl l ++ icl x := by simp [icl]
theorem icl_one (l : List Nat) : ∀ u ∈ icl l, u.oneCell' = true := by
  intro u hu
  obtain ⟨b, _, rfl⟩ := List.mem_map.1 hu
  rfl
theorem grownBy_of_below {W W1 : World} (h : Below W.heap.size W W1) (row : Option Nat) : W.grownBy W1 row := ⟨h.os, h.tape, h.output, h.size, fun i hi _ => h.block i hi⟩
theorem own_keep {W W1 : World} {base n : Nat} {e : TypeId} {v : Value} {xs : List Value} (h : W.ownsRow base e 1 v n xs) (k : Below W.heap.size W W1) : W1.ownsRow base e 1 v n xs := h.kept (grownBy_of_below k none) (by cases v.ownBlock <;> simp)

/-- One number behind a list of numbers that the call made itself. -/
theorem wpList_ipush {w : World} {ops : Array Oper} {rest : List Oper} {o : Oper} {a : Act} {Q : Exit → Act → World → Prop} (hgd : o.guard = none) (s x : Operand)
    (ho : o.op = .call { callee := .builtin .append, args := #[s, x], argTypes := #[24, 24] }) {base n m c : Nat} {A : Option Addr} {l : List Nat} (hn : l.length = n) (hm : n + 1 = m) (X : w.ownsRow base 3 1 (.slice A n c) n (icl l))
    (hs : a.eval s = .slice A n c) (ad : Addr) (p : Nat) (hx : a.eval x = .slice (some ad) 1 1) (hb : w.cell? ad = some (.int .i64 (p : Int))) (hl : n ≤ 100000) (hbase : base ≤ w.heap.size)
    (h : ∀ A' c' w', w'.ownsRow base 3 1 (.slice A' m c') m (icl (l ++ [p])) → Below base w w' → wpList Try.prog ops Q rest (a.put o.dst (.slice A' m c')) w') : wpList Try.prog ops Q (o :: rest) a w := by
  obtain ⟨i0, hi0, hz0, hz1, hz2⟩ := info_parts int_info
  subst hn hm
  refine wpList_append_own_at _ hgd s x _ ho base 3 i0 _ 1 8 Try.underlying24 hi0 hz0 hz1 hz2 rfl (by omega) (.slice A l.length c) l.length (icl l) hs X ad 1 1 (icl [p]) hx rfl (by intro j u hu; rcases j with _ | j <;> simp [icl] at hu; subst hu; simpa [Addr.add] using hb) (icl_one _) (by simp only [maxLen]; omega) (by omega) hbase ?_
  intro v' w' hown hg _ _
  obtain ⟨A', c', rfl⟩ := own_form hown
  rw [← icl_app] at hown
  exact h A' c' w' hown ((Below.refl base w).grown hg hbase (fun k hk => (X.lt k hk).1))
/-- One byte behind a list of bytes that the call made itself. -/
theorem wpList_bpush {w : World} {ops : Array Oper} {rest : List Oper} {o : Oper} {a : Act} {Q : Exit → Act → World → Prop} (hgd : o.guard = none) (s x : Operand)
    (ho : o.op = .call { callee := .builtin .append, args := #[s, x], argTypes := #[22, 22] }) {base n m c : Nat} {A : Option Addr} {l : List UInt8} (hn : l.length = n) (hm : n + 1 = m) (X : w.ownsRow base 5 1 (.slice A n c) n (bcl l))
    (hs : a.eval s = .slice A n c) (ad : Addr) (p : UInt8) (hx : a.eval x = .slice (some ad) 1 1) (hb : w.cell? ad = some (.int .u8 (p.toNat : Int))) (hl : n ≤ 100000) (hbase : base ≤ w.heap.size)
    (h : ∀ A' c' w', w'.ownsRow base 5 1 (.slice A' m c') m (bcl (l ++ [p])) → Below base w w' → wpList Try.prog ops Q rest (a.put o.dst (.slice A' m c')) w') : wpList Try.prog ops Q (o :: rest) a w := by
  obtain ⟨i0, hi0, hz0, hz1, hz2⟩ := info_parts uint8_info
  subst hn hm
  refine wpList_append_own_at _ hgd s x _ ho base 5 i0 _ 1 1 Try.underlying22 hi0 hz0 hz1 hz2 rfl (by omega) (.slice A l.length c) l.length (bcl l) hs X ad 1 1 (bcl [p]) hx rfl (by intro j u hu; rcases j with _ | j <;> simp [bcl] at hu; subst hu; simpa [Addr.add] using hb) (bcl_one _) (by simp only [maxLen]; omega) (by omega) hbase ?_
  intro v' w' hown hg _ _
  obtain ⟨A', c', rfl⟩ := own_form hown
  rw [← bcl_app] at hown
  exact h A' c' w' hown ((Below.refl base w).grown hg hbase (fun k hk => (X.lt k hk).1))

/-- A list of numbers, of the call's own, is what is given back. -/
def CollI (l : List Nat) (w : World) (e : Ending) (w' : World) : Prop := ∃ A c, e = .returned (.slice A l.length c) ∧ w'.ownsRow w.heap.size 3 1 (.slice A l.length c) l.length (icl l) ∧ Below w.heap.size w w'
theorem CollI.of {L : List Nat} {w w' : World} {e : Ending} {A : Option Addr} {n c : Nat} (hn : L.length = n) (he : e = .returned (.slice A n c)) (h : w'.ownsRow w.heap.size 3 1 (.slice A n c) n (icl L)) (hb : Below w.heap.size w w') : CollI L w e w' := by
  subst hn
  exact ⟨A, c, he, h, hb⟩

set_option maxRecDepth 20000 in
set_option maxHeartbeats 1000000 in
theorem bits_any (n : Nat) (w : World) (hn : n < 9223372036854775808) : Calls Try.prog 10 #[.int .i64 (n : Int)] w (CollI (bt 63 n) w) := by
  go_enter Try.func10, Try.ntmps10
  go_wp2
  go_loopw [0, 3, 4] (fun vn vo vi w' => ∃ (i : Nat) (A : Option Addr) (c : Nat), vn = .int .i64 ((n / 2 ^ i : Nat) : Int) ∧ vo = .slice A i c ∧ vi = .int .i64 i ∧ i ≤ 63 ∧ w'.ownsRow w.heap.size 3 1 (.slice A i c) i (icl (bt i n)) ∧ Below w.heap.size w w') (fun _ _ vi _ => 63 - (intOf vi).toNat)
  case atStart => exact ⟨0, none, 0, by simp, rfl, rfl, by omega, World.ownsRow_nil _ _ _ _, Below.refl _ _⟩
  case round =>
    obtain ⟨i, A, c, rfl, rfl, rfl, hi, hO, hB⟩ := hrel
    have HO := Lib.hid hO
    have HB := Lib.hid hB
    have HS := Lib.hid (bt_snoc i n)
    have HD := Lib.hid (show n / 2 ^ (i + 1) = n / 2 ^ i / 2 by rw [Nat.pow_succ, Nat.div_div_eq_div_mul])
    clear hO hB
    obtain ⟨q, hq⟩ : ∃ q, n / 2 ^ i = q := ⟨_, rfl⟩
    have hw : wrap64 ((q : Int) / 2) = (q : Int) / 2 := by
      have : n / 2 ^ i ≤ n := Nat.div_le_self _ _
      unfold wrap64
      omega
    rw [hq] at HS HD ⊢
    clear hq
    by_cases hlt : i < 63
    · go_wp2_with (at_builtin
                   have HO' : Hid ((wr.alloc (.cells #[.int .i64 ((q % 2 : Nat) : Int)] 3)).ownsRow w.heap.size 3 1 (.slice A i c) i (icl (bt i n))) := Lib.hid (own_keep HO.out ((Below.refl _ _).alloc (Nat.le_refl _) _))
                   refine wpList_ipush (by rfl) (.tmp 9) (.tmp 12) (by rfl) (m := i + 1) (bt_len i n) rfl HO'.out (by rfl) ⟨wr.heap.size, 0, none⟩ (q % 2) (by rfl) (by simp) (by omega) (by have := HB.out.size; simp; omega) ?_
                   intro A2 c2 w2 o2 b2
                   have O2 := Lib.hid o2
                   have B2 := Lib.hid ((HB.out.alloc HB.out.size (.cells #[.int .i64 ((q % 2 : Nat) : Int)] 3)).trans b2)
                   clear o2 b2 HO')
      go_roundw
      case rel => exact ⟨i + 1, A2, c2, by rw [HD.out]; go_num, rfl, by go_num, by omega, by rw [HS.out]; exact O2.out, B2.out⟩
      case measure => simp [intOf]; omega
    · obtain rfl : i = 63 := by omega
      go_wp2
      go_ret
      exact CollI.of (bt_len 63 n) rfl HO.out HB.out

theorem own_cells {w : World} {base n c : Nat} {A : Option Addr} {e : TypeId} {xs : List Value} (h : w.ownsRow base e 1 (.slice A n c) n xs) (h0 : 0 < n) : ∃ g cap, A = some ⟨g, 0, none⟩ ∧ c = cap ∧ ∀ j u, xs[j]? = some u → w.cell? ⟨g, j, none⟩ = some u := by
  rcases h.2 with ⟨_, h1⟩ | ⟨g', cap, cur, hv, hb, hg, h1, h2, h3, h4⟩
  · omega
  · injection hv with e1 e2 e3
    refine ⟨g', cap, e1, e3, fun j u hu => ?_⟩
    have hj : j < xs.length := by
      rcases Nat.lt_or_ge j xs.length with h5 | h5
      · exact h5
      · rw [List.getElem?_eq_none h5] at hu; cases hu
    have hl := h.1
    rw [cell_of_row w g' j _ _ (0, 0) hg, ← Array.getElem?_toList]
    rw [← h4, List.getElem?_take_of_lt (by omega)] at hu
    exact hu

theorem tz_bits (n : Int) (b k : Nat) (hb : b ≤ 1) (hk : tz n = 2 * k + b) : b :: bt 63 k = bt 64 (tz n) := by
  rw [hk]
  show b :: bt 63 k = (2 * k + b) % 2 :: bt 63 ((2 * k + b) / 2)
  rw [show (2 * k + b) % 2 = b by omega, show (2 * k + b) / 2 = k by omega]

set_option maxRecDepth 20000 in
set_option maxHeartbeats 1000000 in
theorem rturned_any (n : Int) (w : World) (h1 : -9223372036854775808 ≤ n) (h2 : n ≤ 9223372036854775807) : Calls Try.prog 14 #[.int .i64 n] w (CollI (bt 64 (tz n)) w) := by
  obtain ⟨i0, hi0, hz0, hz1, hz2⟩ := info_parts int_info
  have fin : ∀ (b k : Nat) (w2 : World) (A : Option Addr) (c : Nat), b ≤ 1 → tz n = 2 * k + b → w2.ownsRow (w.alloc (.cells #[.int .i64 (b : Int)] 3)).heap.size 3 1 (.slice A (bt 63 k).length c) (bt 63 k).length (icl (bt 63 k)) → Below (w.alloc (.cells #[.int .i64 (b : Int)] 3)).heap.size (w.alloc (.cells #[.int .i64 (b : Int)] 3)) w2 →
      ∀ {ops : Array Oper} {rest : List Oper} {o : Oper} {a : Act} {Q : Exit → Act → World → Prop} (_ : o.guard = none) (s x : Operand) (_ : o.op = .call { callee := .builtin .append, args := #[s, x], argTypes := #[24, 24] })
        (_ : a.eval s = .slice (some ⟨w.heap.size, 0, none⟩) 1 1) (_ : a.eval x = .slice A 63 c) (_ : ∀ A' c' w', CollI (bt 64 (tz n)) w (.returned (.slice A' 64 c')) w' → wpList Try.prog ops Q rest (a.put o.dst (.slice A' 64 c')) w'), wpList Try.prog ops Q (o :: rest) a w2 := by
    intro b k w2 A c hb hk hO hB ops rest o a Q hgd s x ho hs hx h
    rw [bt_len] at hO
    obtain ⟨g, cap, rfl, rfl, hcell⟩ := own_cells hO (by omega)
    have hlt := hB.size
    rw [World.size_alloc] at hlt
    have X : w2.ownsRow w.heap.size 3 1 (.slice (some ⟨w.heap.size, 0, none⟩) 1 1) 1 (icl [b]) :=
      own_keep (W := w.alloc (.cells #[.int .i64 (b : Int)] 3)) ⟨rfl, .inr ⟨_, 1, _, rfl, Nat.le_refl _, heap_alloc_new w _, Nat.le_refl _, by simp only [maxLen]; omega, rfl, rfl⟩⟩ hB
    refine wpList_append_own_at _ hgd s x _ ho w.heap.size 3 i0 _ 1 8 Try.underlying24 hi0 hz0 hz1 hz2 rfl (by omega) _ 1 (icl [b]) hs X ⟨g, 0, none⟩ 63 c (icl (bt 63 k)) hx (by rw [icl_len, bt_len]) (by intro j u hu; rw [Go.WideShapes.add_plain, Nat.zero_add]; exact hcell j u hu) (icl_one _) (by simp only [maxLen]; omega) (by omega) (by omega) ?_
    intro v' w' hown hg _ _
    obtain ⟨A', c', rfl⟩ := own_form hown
    refine h A' c' w' (CollI.of (bt_len 64 _) rfl ?_ ?_)
    · rw [← tz_bits n b k hb hk]; exact hown
    · exact ((Below.refl w.heap.size w).alloc (Nat.le_refl _) _).trans ((hB.mono (by simp)).grown hg (by omega) (fun j hj => by
        have e : some w.heap.size = some j := hj
        injection e with e
        omega))
  have FIN := Lib.hid @fin
  clear fin hi0 hz0 hz1 hz2 i0
  by_cases h : n < 0
  · obtain ⟨k, hk⟩ : ∃ k : Nat, n = -1 - (k : Int) := ⟨(-(n + 1)).toNat, by omega⟩
    have hk2 := Lib.hid (show tz n = 2 * k + 1 by unfold tz; rw [if_pos h]; omega)
    have hw : wrap64 (-wrap64 (n + 1)) = (k : Int) := by unfold wrap64; omega
    have hkb : k < 9223372036854775808 := by omega
    have HK := Lib.hid (And.intro hk (And.intro h1 h2))
    clear hk h1 h2
    go_enter Try.func14, Try.ntmps14
    go_wp2_with (first
      | (go_at_call 10; refine (bits_any k _ hkb).mono ?_; rintro e w2 ⟨A, c, rfl, o2, b2⟩)
      | (at_builtin; refine FIN.out 1 k _ A c (by omega) hk2.out o2 b2 (by rfl) (.tmp 5) (.tmp 9) (by rfl) (by rfl) (by rw [bt_len]; rfl) ?_; intro A' c' w' hC))
    go_ret
    exact hC
  · obtain ⟨k, hk⟩ : ∃ k : Nat, n = (k : Int) := ⟨n.toNat, by omega⟩
    subst hk
    have hk2 := Lib.hid (show tz (k : Int) = 2 * k + 0 by unfold tz; rw [if_neg h]; omega)
    have hkb : k < 9223372036854775808 := by omega
    clear h1 h2
    go_enter Try.func14, Try.ntmps14
    go_wp2_with (first
      | (go_at_call 10; refine (bits_any k _ hkb).mono ?_; rintro e w2 ⟨A, c, rfl, o2, b2⟩)
      | (at_builtin; refine FIN.out 0 k _ A c (by omega) hk2.out o2 b2 (by rfl) (.tmp 11) (.tmp 13) (by rfl) (by rfl) (by rw [bt_len]; rfl) ?_; intro A' c' w' hC))
    go_ret
    exact hC

/-- A slice of numbers, seen from wherever it lies. -/
def Nu (w : World) (a : Option Addr) (l : List Nat) : Prop :=
  ∀ k, k < l.length → ∃ b off, a = some ⟨b, off, none⟩ ∧ b < w.heap.size ∧ w.cell? ⟨b, off + k, none⟩ = some (.int .i64 ((l.getD k 0 : Nat) : Int))
theorem Nu.next {w w' : World} {a : Option Addr} {l : List Nat} (h : Nu w a l) (hb : Below w.heap.size w w') : Nu w' a l := fun k hk => by
  obtain ⟨b, off, e, hlt, hc⟩ := h k hk
  exact ⟨b, off, e, Nat.lt_of_lt_of_le hlt hb.size, by rw [hb.cell (p := ⟨b, off + k, none⟩) hlt]; exact hc⟩
theorem Nu.of_own {w : World} {g : Nat} {A : Option Addr} {n c : Nat} {l : List Nat} (h : w.ownsRow g 3 1 (.slice A n c) n (icl l)) : Nu w A l := fun k hk => by
  have hn : n = l.length := by have := h.1; rw [icl_len] at this; omega
  obtain ⟨g', cap, rfl, rfl, hc⟩ := own_cells h (by omega)
  refine ⟨g', 0, rfl, (h.lt g' rfl).2, ?_⟩
  rw [Nat.zero_add, hc k (.int .i64 ((l.getD k 0 : Nat) : Int))]
  rw [icl, List.getElem?_map, List.getElem?_eq_getElem hk]
  simp [List.getD, List.getElem?_eq_getElem hk]

/-- Bits, the noughts at the end struck. -/
theorem bv_strip {l : List Nat} {n : Nat} (hn : n < l.length) (h0 : l.getD n 0 = 0) (h : bv (l.take (n + 1)) = bv l) : bv (l.take n) = bv l := by
  rw [← h, List.take_succ_eq_append_getElem hn, bv_app]
  have : l[n] = 0 := by simpa [List.getD, List.getElem?_eq_getElem hn] using h0
  simp [this, bv]
/-- What seven of bits come to, and what is behind them. -/
def wn (l : List Nat) (n i k : Nat) : Nat := bv ((((l.take n).drop i).drop k).take (7 - k))
theorem wn_7 (l : List Nat) (n i : Nat) : wn l n i 7 = 0 := by simp [wn, bv]
theorem isB_take {l : List Nat} (h : isB l) (k : Nat) : isB (l.take k) := fun b hb => h b (List.mem_of_mem_take hb)
theorem isB_drop {l : List Nat} (h : isB l) (k : Nat) : isB (l.drop k) := fun b hb => h b (List.mem_of_mem_drop hb)
theorem isB_at {l : List Nat} (h : isB l) (k : Nat) : l.getD k 0 ≤ 1 := by
  by_cases hk : k < l.length
  · simp only [List.getD, List.getElem?_eq_getElem hk, Option.getD_some]; exact h _ (List.getElem_mem hk)
  · simp [List.getD, List.getElem?_eq_none (Nat.le_of_not_lt hk)]
theorem wn_lt {l : List Nat} (h : isB l) (n i k : Nat) (hk : k ≤ 7) : wn l n i k < 2 ^ (7 - k) := by
  refine Nat.lt_of_lt_of_le (bv_lt _ (isB_take (isB_drop (isB_drop (isB_take h _) _) _) _)) (Nat.pow_le_pow_right (by omega) ?_)
  rw [List.length_take]; omega
theorem wn_step {l : List Nat} {n i k : Nat} (hn : n ≤ l.length) (hk : k < 7) : wn l n i k = 2 * wn l n i (k + 1) + (if i + k < n then l.getD (i + k) 0 else 0) := by
  unfold wn
  by_cases h : i + k < n
  · have hl : k < ((l.take n).drop i).length := by simp; omega
    rw [if_pos h, List.drop_eq_getElem_cons hl, show 7 - k = (7 - (k + 1)) + 1 by omega, List.take_succ_cons, bv]
    have : ((l.take n).drop i)[k] = l.getD (i + k) 0 := by simp [List.getD, List.getElem?_eq_getElem (show i + k < l.length by omega)]
    rw [this]; omega
  · have hl : ((l.take n).drop i).length ≤ k := by simp; omega
    rw [if_neg h, List.drop_eq_nil_iff.2 hl, List.drop_eq_nil_iff.2 (by omega)]
    simp [bv]
theorem bv_split (l : List Nat) (k : Nat) (hk : k ≤ l.length) : bv l = bv (l.take k) + 2 ^ k * bv (l.drop k) := by
  have e := bv_app (l.take k) (l.drop k)
  rw [List.take_append_drop, List.length_take, Nat.min_eq_left hk] at e
  exact e
/-- The pieces of what is behind i, where more than seven bits are left, the last one 1. -/
theorem pc_more {l : List Nat} {n i : Nat} (hb : isB l) (hn : n ≤ l.length) (hl : l.getD (n - 1) 0 = 1) (h : i + 7 < n) :
    pc (bv ((l.take n).drop i)) = UInt8.ofNat (wn l n i 0 + 128) :: pc (bv ((l.take n).drop (i + 7))) := by
  obtain ⟨c, hc⟩ : ∃ c, (l.take n).drop i = c := ⟨_, rfl⟩
  have hlen : c.length = n - i := by rw [← hc]; simp; omega
  have hs := bv_split c 7 (by omega)
  have hw : wn l n i 0 = bv (c.take 7) := by unfold wn; rw [hc]; rfl
  have hd : (l.take n).drop (i + 7) = c.drop 7 := by rw [← hc, List.drop_drop]
  have hw2 := wn_lt hb n i 0 (by omega)
  rw [hw] at hw2
  have hpos : 1 ≤ bv (c.drop 7) := by
    obtain ⟨m, hm⟩ : ∃ m, n - 1 - i - 7 = m := ⟨_, rfl⟩
    have hs2 := bv_split (c.drop 7) m (by simp; omega)
    have hlast : ((c.drop 7).drop m) = [1] := by
      rw [← hc, List.drop_drop, List.drop_drop]
      have : i + (7 + m) < (l.take n).length := by simp; omega
      rw [show i + (7 + m) = n - 1 by omega] at this ⊢
      rw [List.drop_eq_getElem_cons this, List.drop_eq_nil_iff.2 (by simp; omega)]
      simp only [List.getElem_take]
      have e2 : l[n - 1]'(by omega) = 1 := by simpa [List.getD, List.getElem?_eq_getElem (show n - 1 < l.length by omega)] using hl
      rw [e2]
    rw [hlast] at hs2
    have : 1 ≤ 2 ^ m := Nat.one_le_two_pow
    simp only [bv] at hs2
    omega
  rw [hw, hd, hc]
  rw [show (2 : Nat) ^ 7 = 128 from rfl] at hs
  rw [show (2 : Nat) ^ (7 - 0) = 128 from rfl] at hw2
  rw [hs, pc_big (by omega), show (bv (c.take 7) + 128 * bv (c.drop 7)) % 128 = bv (c.take 7) by omega, show (bv (c.take 7) + 128 * bv (c.drop 7)) / 128 = bv (c.drop 7) by omega]
theorem pc_done {l : List Nat} {n i : Nat} (hb : isB l) (hn : n ≤ l.length) (h : n ≤ i + 7) : pc (bv ((l.take n).drop i)) = [UInt8.ofNat (wn l n i 0)] := by
  have hw : wn l n i 0 = bv ((l.take n).drop i) := by
    unfold wn
    rw [List.drop_zero, List.take_of_length_le (by simp; omega)]
  have := wn_lt hb n i 0 (by omega)
  rw [← hw, pc_small (by simpa using this)]

def rem7 (l : List Nat) (n i : Nat) : List UInt8 := if i = 0 ∨ i < n then pc (bv ((l.take n).drop i)) else []
theorem rem7_step {l : List Nat} {n i : Nat} {o : List UInt8} (hb : isB l) (hn : n ≤ l.length) (hl : 0 < n → l.getD (n - 1) 0 = 1) (h : i = 0 ∨ i < n) (e : o ++ rem7 l n i = pc (bv l)) :
    o ++ [UInt8.ofNat (if i + 7 < n then wn l n i 0 + 128 else wn l n i 0)] ++ rem7 l n (i + 7) = pc (bv l) := by
  rw [← e, show rem7 l n i = pc (bv ((l.take n).drop i)) from if_pos h]
  by_cases h7 : i + 7 < n
  · rw [if_pos h7, show rem7 l n (i + 7) = _ from if_pos (.inr h7), pc_more hb hn (hl (by omega)) h7, List.append_assoc]; rfl
  · rw [if_neg h7, show rem7 l n (i + 7) = [] from if_neg (by omega), pc_done hb hn (by omega), List.append_nil]

set_option maxRecDepth 20000 in
set_option maxHeartbeats 2000000 in
theorem rpieces_any (a : Option Addr) (cc : Nat) (l : List Nat) (w : World) (ha : Nu w a l) (hb : isB l) (hl : l.length ≤ 100) :
    Calls Try.prog 9 #[.slice a l.length cc] w (Coll (pc (bv l)) w) := by
  have HA := Lib.hid ha
  have HI := Lib.hid hb
  clear ha hb
  go_enter Try.func9, Try.ntmps9
  go_wp2
  go_loop [3] (fun vn => ∃ n : Nat, vn = .int .i64 n ∧ n ≤ l.length ∧ bv (l.take n) = bv l) (fun vn => (intOf vn).toNat)
  case atStart => exact ⟨l.length, rfl, Nat.le_refl _, by rw [List.take_length]⟩
  case round =>
    obtain ⟨n, rfl, hn, hv⟩ := hrel
    have HV := Lib.hid hv
    clear hv
    by_cases h0 : ∃ m, n = m + 1 ∧ l.getD m 0 = 0
    · obtain ⟨m, rfl, hm⟩ := h0
      obtain ⟨b, off, rfl, hb, hc⟩ := HA.out m (by omega)
      rw [hm] at hc
      have HS := Lib.hid (bv_strip (l := l) (n := m) (by omega) hm HV.out)
      clear hm
      go_wp2
      go_round
      case rel => exact ⟨m, by go_num, by omega, HS.out⟩
      case measure => simp [intOf]
    · have HL : Hid (0 < n → l.getD (n - 1) 0 = 1) := Lib.hid (fun h => by
        have h1 := isB_at HI.out (n - 1)
        have h2 : l.getD (n - 1) 0 ≠ 0 := fun h3 => h0 ⟨n - 1, by omega, h3⟩
        omega)
      clear h0
      rcases Nat.eq_zero_or_pos n with hz | hz
      focus
        have hz' : ¬ ((n : Int) > 0) := by omega
        clear hz
        go_wp2
        clear hz'
      rotate_left
      focus
        obtain ⟨m, hm⟩ : ∃ m, n - 1 = m := ⟨_, rfl⟩
        have hnm : (n : Int) - 1 = (m : Int) := by omega
        obtain ⟨b, off, rfl, hb, hc⟩ := HA.out m (by omega)
        have hone := HL.out hz
        rw [hm] at hone
        rw [hone] at hc
        clear hone
        go_wp2
        clear hz hc hb hm hnm
      all_goals
        go_loopw [4, 5] (fun vo vi w' => ∃ (i k : Nat) (o : List UInt8) (A : Option Addr) (c : Nat), vo = .slice A k c ∧ vi = .int .i64 i ∧ i ≤ n + 7 ∧ k * 7 = i ∧ o.length = k ∧ w'.ownsRow w.heap.size 5 1 (.slice A k c) k (bcl o) ∧ o ++ rem7 l n i = pc (bv l) ∧ Below w.heap.size w w') (fun _ vi _ => n + 8 - (intOf vi).toNat)
        case atStart => exact ⟨0, 0, [], none, 0, rfl, rfl, by omega, rfl, rfl, World.ownsRow_nil _ _ _ _, by rw [rem7, if_pos (.inl rfl), List.drop_zero, HV.out]; rfl, Below.refl _ _⟩
        case round =>
          obtain ⟨i, k, o, A, c, rfl, rfl, hi, hk, hol, hO, he, hB⟩ := hrel
          have HO := Lib.hid hO
          have HB := Lib.hid hB
          have HE := Lib.hid he
          have HN := Lib.hid hol
          clear hO hB he hol
          by_cases hcond : i = 0 ∨ i < n
          · have HC := Lib.hid hcond
            have hnl : i < 200 := by omega
            rcases Nat.eq_zero_or_pos i with hi0 | hi0
            focus
              have hi1 : ((i : Int) == 0) = true := by simp; omega
              clear hcond hi0
              go_wp2
              clear hi1
            rotate_left
            focus
              have hi1 : ((i : Int) == 0) = false := by simp; omega
              have hi2 : (i : Int) < (n : Int) := by omega
              clear hcond hi0
              go_wp2
              clear hi1 hi2
            all_goals
              go_loop [6, 7] (fun vx vk => ∃ j : Nat, j ≤ 7 ∧ vx = .int .i64 ((wn l n i j : Nat) : Int) ∧ vk = .int .i64 ((j : Int) - 1)) (fun _ vk => (intOf vk + 1).toNat)
              case atStart => exact ⟨7, Nat.le_refl _, by rw [wn_7]; rfl, rfl⟩
              case round =>
                obtain ⟨j, hj, rfl, rfl⟩ := hrel
                have hw := wn_lt HI.out n i j hj
                have hw2 : 2 ^ (7 - j) ≤ 2 ^ 7 := Nat.pow_le_pow_right (by omega) (by omega)
                cases j with
                | zero =>
                  obtain ⟨q, hq⟩ : ∃ q, wn l n i 0 = q := ⟨_, rfl⟩
                  have RS := Lib.hid (rem7_step HI.out hn HL.out HC.out HE.out)
                  rw [hq] at hw RS ⊢
                  have hqb : q < 128 := by omega
                  clear hq hw hw2 hj
                  by_cases h7 : i + 7 < n
                  · rw [if_pos h7] at RS
                    obtain ⟨b, hb⟩ : ∃ b, UInt8.ofNat (q + 128) = b := ⟨_, rfl⟩
                    have HB2 := Lib.hid (show (b.toNat : Int) = (q : Int) + 128 by rw [← hb, u8_of _ (by omega)]; omega)
                    rw [hb] at RS
                    clear hb
                    go_wp2_with (at_builtin
                                 have HO' : Hid ((wr.alloc (.cells #[.int .u8 ((q : Int) + 128)] 5)).ownsRow w.heap.size 5 1 (.slice A k c) k (bcl o)) := Lib.hid (own_keep HO.out ((Below.refl _ _).alloc (Nat.le_refl _) _))
                                 refine wpList_bpush (by rfl) (.tmp 56) (.tmp 59) (by rfl) (m := k + 1) HN.out rfl HO'.out (by rfl) ⟨wr.heap.size, 0, none⟩ b (by rfl) (by rw [HB2.out]; simp) (by omega) (by have := HB.out.size; simp; omega) ?_
                                 intro A2 c2 w2 o2 b2
                                 have O2 := Lib.hid o2
                                 have B2 := Lib.hid ((HB.out.alloc HB.out.size (.cells #[.int .u8 ((q : Int) + 128)] 5)).trans b2)
                                 clear o2 b2 HO')
                    all_goals
                      go_roundw
                      case rel => exact ⟨i + 7, k + 1, o ++ [b], A2, c2, rfl, by go_num, by have := HC.out; omega, by omega, by rw [List.length_append, HN.out]; rfl, O2.out, RS.out, B2.out⟩
                      case measure => simp [intOf] <;> omega
                  · rw [if_neg h7] at RS
                    obtain ⟨b, hb⟩ : ∃ b, UInt8.ofNat q = b := ⟨_, rfl⟩
                    have HB2 := Lib.hid (show (b.toNat : Int) = (q : Int) by rw [← hb, u8_of _ (by omega)])
                    rw [hb] at RS
                    clear hb
                    go_wp2_with (at_builtin
                                 have HO' : Hid ((wr.alloc (.cells #[.int .u8 (q : Int)] 5)).ownsRow w.heap.size 5 1 (.slice A k c) k (bcl o)) := Lib.hid (own_keep HO.out ((Below.refl _ _).alloc (Nat.le_refl _) _))
                                 refine wpList_bpush (by rfl) (.tmp 56) (.tmp 59) (by rfl) (m := k + 1) HN.out rfl HO'.out (by rfl) ⟨wr.heap.size, 0, none⟩ b (by rfl) (by rw [HB2.out]; simp) (by omega) (by have := HB.out.size; simp; omega) ?_
                                 intro A2 c2 w2 o2 b2
                                 have O2 := Lib.hid o2
                                 have B2 := Lib.hid ((HB.out.alloc HB.out.size (.cells #[.int .u8 (q : Int)] 5)).trans b2)
                                 clear o2 b2 HO')
                    all_goals
                      go_roundw
                      case rel => exact ⟨i + 7, k + 1, o ++ [b], A2, c2, rfl, by go_num, by have := HC.out; omega, by omega, by rw [List.length_append, HN.out]; rfl, O2.out, RS.out, B2.out⟩
                      case measure => simp [intOf] <;> omega
                | succ t =>
                  have HS := Lib.hid (wn_step (l := l) (n := n) (i := i) (k := t) hn (by omega))
                  obtain ⟨q, hq⟩ : ∃ q, wn l n i (t + 1) = q := ⟨_, rfl⟩
                  rw [hq] at hw HS ⊢
                  have hqb : q < 128 := by omega
                  clear hq hw hw2
                  by_cases hlt : i + t < n
                  · have HS2 := HS.out
                    rw [if_pos hlt] at HS2
                    have HS3 := Lib.hid HS2
                    obtain ⟨b1, o1, ha, hb1, hc1⟩ := HA.out (i + t) (by omega)
                    have hc2 : wr.cell? ⟨b1, o1 + (i + t), none⟩ = some (.int .i64 ((l.getD (i + t) 0 : Nat) : Int)) := by rw [HB.out.cell (p := ⟨b1, o1 + (i + t), none⟩) hb1]; exact hc1
                    have hv := isB_at HI.out (i + t)
                    obtain ⟨v, hv2⟩ : ∃ v, l.getD (i + t) 0 = v := ⟨_, rfl⟩
                    rw [hv2] at hc2 hv HS3
                    clear hc1 hb1 HS HS2 hv2
                    cases ha
                    go_wp2
                    all_goals
                      go_round
                      case rel => exact ⟨t, by omega, by rw [HS3.out]; go_num, by go_num⟩
                      case measure => simp [intOf]
                  · have HS2 := HS.out
                    rw [if_neg hlt] at HS2
                    have HS3 := Lib.hid HS2
                    clear HS HS2
                    go_wp2
                    all_goals
                      go_round
                      case rel => exact ⟨t, by omega, by rw [HS3.out]; go_num, by go_num⟩
                      case measure => simp [intOf]
          · have h1 : ((i : Int) == 0) = false := by simp; omega
            have h2 : ¬ ((i : Int) < (n : Int)) := by omega
            have HC := Lib.hid hcond
            clear hcond
            go_wp2
            go_ret
            have := HE.out
            rw [rem7, if_neg HC.out, List.append_nil] at this
            subst this
            exact Coll.of HN.out rfl HO.out HB.out
end Go.Proofs.Ytdepbhikkjfcjaa

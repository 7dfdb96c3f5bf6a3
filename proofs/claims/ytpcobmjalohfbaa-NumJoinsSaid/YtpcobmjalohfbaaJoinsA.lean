/- For every two slices of numbers and every three numbers the law NumJoins returns true, and nothing that was in memory changes: there are no other conditions. -/
import Derived.Test.YtpcobmjalohfbaaRows
import Derived.Test.YtpcobmjalohfbaaOrderA
import Derived.Test.YtpcobmjalohfbaaOpen
import Derived.Laws.AppendOwnNone
namespace Go.Proofs.Ytpcobmjalohfbaa
open Go.RowKit

/-- append onto a row of the call's own: the source is a slice of numbers, nil or not. -/
theorem wpList_app {P : Program} (w : World) {ops : Array Oper} {rest : List Oper} {o : Oper} {a : Act} {Q : Exit → Act → World → Prop} (hgd : o.guard = none) (s x : Operand) (t : TypeId)
    (ho : o.op = .call { callee := .builtin .append, args := #[s, x], argTypes := #[t, t] })
    (base : Nat) (e : TypeId) (i : TypeInfo) (ht : P.underlying t = some (.slice e)) (hi : P.info? e = some i) (hz : i.zero = some (.int .i64 0)) (hsize : i.size = 1) (hby : i.bytes = 8)
    (v : Value) (n : Nat) (xs : List Value) (hs : a.eval s = v) (hown : w.ownsRow base e 1 v n xs)
    (A : Option Addr) (c : Nat) (ys : List Int) (hx : a.eval x = .slice A ys.length c) (hA : A = none → c = 0) (hr : Ints w A ys) (hm : n + ys.length ≤ 65536) (hbase : base ≤ w.heap.size)
    (h : ∀ v' w', w'.ownsRow base e 1 v' (n + ys.length) (xs ++ ys.map (Value.int .i64)) → w.grownBy w' v.ownBlock → wpList P ops Q rest (a.put o.dst v') w') : wpList P ops Q (o :: rest) a w := by
  cases A with
  | none =>
    have hy : ys = [] := by
      cases ys with
      | nil => rfl
      | cons y ys => obtain ⟨_, _, h, _⟩ := hr.1 0 (by simp); cases h
    subst hy
    rw [hA rfl] at hx
    exact wpList_append_own_none hgd s x t ho base e i 1 ht hi v n xs hs hown hx (h v w (by simpa using hown) (World.grownBy.refl w _))
  | some ad =>
    refine wpList_append_own w hgd s x t ho base e i (.int .i64 0) 1 8 ht hi hz hsize hby rfl (by omega) v n xs hs hown ad ys.length c (ys.map (Value.int .i64)) hx (by simp) ?_ ?_ (by unfold maxLen; omega) (by omega) hbase fun v' w' h2 h3 _ => h v' w' h2 h3
    · intro j u hu
      have hj : j < ys.length := by
        rcases Nat.lt_or_ge j ys.length with h | h
        · exact h
        · rw [List.getElem?_eq_none (by simpa using h)] at hu; cases hu
      obtain ⟨b, off, he, _, hc⟩ := hr.1 j hj
      injection he with he
      subst he
      rw [Go.WideShapes.add_plain, hc]
      rw [← hu]
      simp [List.getD, List.getElem?_eq_getElem hj]
    · intro u hu
      obtain ⟨z, _, rfl⟩ := List.mem_map.1 hu
      rfl

/-- The three numbers' box, and all that was there, are as they were. -/
structure Keep (w : World) (x y z : Int) (wc : World) : Prop where
  bel : Below w.heap.size w wc
  lt : w.heap.size < wc.heap.size
  c0 : wc.cell? ⟨w.heap.size, 0, none⟩ = some (.int .i64 x)
  c1 : wc.cell? ⟨w.heap.size, 1, none⟩ = some (.int .i64 y)
  c2 : wc.cell? ⟨w.heap.size, 2, none⟩ = some (.int .i64 z)
theorem Keep.next {w wc w' : World} {x y z : Int} (h : Keep w x y z wc) (k : Below wc.heap.size wc w') : Keep w x y z w' :=
  ⟨below_after h.bel k (Nat.le_of_lt h.lt), Nat.lt_of_lt_of_le h.lt k.size, (k.cell (p := ⟨w.heap.size, 0, none⟩) h.lt).trans h.c0, (k.cell (p := ⟨w.heap.size, 1, none⟩) h.lt).trans h.c1, (k.cell (p := ⟨w.heap.size, 2, none⟩) h.lt).trans h.c2⟩

namespace numJoins
theorem own : ownKnob Try.prog.godebug = none := by kernel_rfl

theorem walk_many (x y z : Int) (a b : Option Addr) (la lb ca cb : Nat) (w : World) (h : 20 < la ∨ 20 < lb) (hla : la ≤ maxLen) (hlb : lb ≤ maxLen) :
    Calls Try.prog 7 #[.slice a la ca, .slice b lb cb, .agg #[.int .i64 x, .int .i64 y, .int .i64 z]] w fun e w' => e = .returned (.bool true) ∧ Below w.heap.size w w' := by
  unfold maxLen at hla hlb
  by_cases h1 : 20 < la
  · go_enter Try.func7, Try.ntmps7
    go_wp2_with (go_at_call 8; refine (awake_yes _).mono ?_; rintro e w1 ⟨rfl, rfl⟩)
    go_ret
    exact ⟨rfl, (Below.refl _ _).alloc (Nat.le_refl _) _⟩
  · have h2 : 20 < lb := by omega
    go_enter Try.func7, Try.ntmps7
    go_wp2_with (go_at_call 8; refine (awake_yes _).mono ?_; rintro e w1 ⟨rfl, rfl⟩)
    go_ret
    exact ⟨rfl, (Below.refl _ _).alloc (Nat.le_refl _) _⟩

set_option maxHeartbeats 2000000 in
theorem walk_few (x y z : Int) (a b : Option Addr) (ca cb : Nat) (us vs : List Int) (w : World) (ha : Ints w a us) (hb : Ints w b vs) (hla : us.length ≤ 20) (hlb : vs.length ≤ 20) (hca : a = none → ca = 0) (hcb : b = none → cb = 0)
    (hx1 : -9223372036854775808 ≤ x) (hx2 : x ≤ 9223372036854775807) (hy1 : -9223372036854775808 ≤ y) (hy2 : y ≤ 9223372036854775807) (hz1 : -9223372036854775808 ≤ z) (hz2 : z ≤ 9223372036854775807) :
    Calls Try.prog 7 #[.slice a us.length ca, .slice b vs.length cb, .agg #[.int .i64 x, .int .i64 y, .int .i64 z]] w fun e w' => e = .returned (.bool true) ∧ Below w.heap.size w w' := by
  have HA := Lib.hid ha
  have HB := Lib.hid hb
  have HCA := Lib.hid hca
  have HCB := Lib.hid hcb
  clear ha hb hca hcb
  obtain ⟨i0, hi0, hz0, hz1', hz2'⟩ := info_parts int_info
  have HI0 := Lib.hid hi0
  have HZ0 := Lib.hid hz0
  have HZ1 := Lib.hid hz1'
  have HZ2 := Lib.hid hz2'
  clear hi0 hz0 hz1' hz2'
  have hdA : decide ((20 : Int) < (us.length : Int)) = false := by simp; omega
  have hdB : decide ((20 : Int) < (vs.length : Int)) = false := by simp; omega
  have T0 : Hid (Keep w x y z (w.alloc (.cells #[.int .i64 x, .int .i64 y, .int .i64 z] 40))) :=
    ⟨(Below.refl _ _).alloc (Nat.le_refl _) _, by simp, by simp [go_sem], by simp [go_sem], by simp [go_sem]⟩
  go_enter Try.func7, Try.ntmps7
  go_wp2_with (at_builtin; refine wpList_app _ rfl (.tmp 32) (.tmp 33) _ rfl (w.heap.size + 1) 3 i0 Try.underlying22 HI0.out HZ0.out HZ1.out HZ2.out (.slice none 0 0) 0 [] rfl (World.ownsRow_nil _ _ _ _) a ca us rfl HCA.out ?c1 (by omega) (by simp) ?_)
  case c1 => exact Ints.below HA.out ((Below.refl _ _).alloc (Nat.le_refl _) _)
  intro v1 w1 hown1 hg1
  have k1 : Below (w.alloc (.cells #[.int .i64 x, .int .i64 y, .int .i64 z] 40)).heap.size (w.alloc (.cells #[.int .i64 x, .int .i64 y, .int .i64 z] 40)) w1 :=
    (Below.refl _ _).grown hg1 (Nat.le_refl _) (by simp [Value.ownBlock])
  have T1 := Lib.hid (T0.out.next k1)
  have ho1 : w1.ownsRow (w.heap.size + 1) 3 1 v1 us.length (us.map (Value.int .i64)) := by simpa using hown1
  have HO1 := Lib.hid ho1
  have HK1 := Lib.hid k1
  have z1 : w.heap.size + 1 ≤ w1.heap.size := by have := k1.size; simp at this; omega
  clear hown1 ho1 hg1 k1 T0
  go_wp2_with (at_builtin; (refine wpList_app _ rfl (.tmp 35) (.tmp 36) _ rfl (w.heap.size + 1) 3 i0 Try.underlying22 HI0.out HZ0.out HZ1.out HZ2.out v1 us.length (us.map (Value.int .i64)) rfl HO1.out b cb vs rfl HCB.out ?c1 (by omega) z1 ?_))
  case c1 => exact Ints.below HB.out T1.out.bel
  intro v2 w2 hown2 hg2
  have T2 : Hid (Keep w x y z w2) := by
    have hb2 : Below (w.heap.size + 1) w1 w2 := (Below.refl _ _).grown hg2 z1 (fun g hg => (HO1.out.lt g hg).1)
    have t := T1.out
    exact ⟨t.bel.trans (hb2.mono (by omega)), Nat.lt_of_lt_of_le t.lt hb2.size, (hb2.cell (p := ⟨w.heap.size, 0, none⟩) (by simp)).trans t.c0, (hb2.cell (p := ⟨w.heap.size, 1, none⟩) (by simp)).trans t.c1, (hb2.cell (p := ⟨w.heap.size, 2, none⟩) (by simp)).trans t.c2⟩
  have hbd : ∀ k ∈ us ++ vs, -9223372036854775808 ≤ k ∧ k ≤ 9223372036854775807 := by
    intro k hk
    rcases List.mem_append.1 hk with h | h
    · exact HA.out.2 k h
    · exact HB.out.2 k h
  rw [← List.map_append] at hown2
  obtain ⟨a3, c3, rfl, hI3⟩ := ints_own hown2 hbd
  have HI3 := Lib.hid hI3
  have HA2 := Lib.hid (Ints.below HA.out T2.out.bel)
  have HB2 := Lib.hid (Ints.below HB.out T2.out.bel)
  have hlen : (us ++ vs).length ≤ 65536 := by simp; omega
  have HS : Hid ((us ++ vs).sum = us.sum + vs.sum) := by show _ = _; rw [List.sum_append]
  clear hown2 hg2 hbd hI3 HO1 T1 z1 HK1 HA HB HI0 HZ0 HZ1 HZ2 HCA HCB
  generalize us ++ vs = ws at *
  go_wp2_with fail
  refine (sum_any a ca us _ HA2.out (by omega)).mono ?_
  rintro e w3 ⟨rfl, k3⟩
  have T3 := Lib.hid (T2.out.next k3)
  have HB3 := Lib.hid (Ints.below HB2.out k3)
  have HI4 := Lib.hid (Ints.below HI3.out k3)
  clear k3 T2 HA2 HB2 HI3
  go_wp2_with fail
  refine (sum_any b cb vs _ HB3.out (by omega)).mono ?_
  rintro e w4 ⟨rfl, k4⟩
  have T4 := Lib.hid (T3.out.next k4)
  have HI5 := Lib.hid (Ints.below HI4.out k4)
  clear k4 T3 HB3 HI4
  go_wp2_with fail
  refine (sum_any a3 c3 ws _ HI5.out hlen).mono ?_
  rw [HS.out]
  rintro e w5 ⟨rfl, k5⟩
  have T := Lib.hid (T4.out.next k5)
  clear k5 T4 HI5 hlen HS
  generalize us.sum = sa at *
  generalize vs.sum = sb at *
  have d0 := T.out.c0
  have d1 := T.out.c1
  have d2 := T.out.c2
  have P1 : (fitE sa = 0 ∧ fitE sb = 0 ∧ fitV sa = sa ∧ fitV sb = sb ∧ (-9223372036854775808 ≤ sa ∧ sa ≤ 9223372036854775807) ∧ (-9223372036854775808 ≤ sb ∧ sb ≤ 9223372036854775807)) ∨ fitE sa = 11 ∨ (fitE sa = 0 ∧ fitE sb = 11) := by
    by_cases h1 : -9223372036854775808 ≤ sa ∧ sa ≤ 9223372036854775807
    · by_cases h2 : -9223372036854775808 ≤ sb ∧ sb ≤ 9223372036854775807
      · exact .inl ⟨fitE_in h1.1 h1.2, fitE_in h2.1 h2.2, fitV_in h1.1 h1.2, fitV_in h2.1 h2.2, h1, h2⟩
      · exact .inr (.inr ⟨fitE_in h1.1 h1.2, fitE_out h2⟩)
    · exact .inr (.inl (fitE_out h1))
  have P2 : (∃ P Q S : Int, fitE (x * z) = 0 ∧ fitE (y * z) = 0 ∧ fitE (x + y) = 0 ∧ fitV (x * z) = P ∧ fitV (y * z) = Q ∧ fitV (x + y) = S ∧ S * z = P + Q ∧ (-9223372036854775808 ≤ P ∧ P ≤ 9223372036854775807) ∧ (-9223372036854775808 ≤ Q ∧ Q ≤ 9223372036854775807) ∧ (-9223372036854775808 ≤ S ∧ S ≤ 9223372036854775807))
      ∨ fitE (x * z) = 11 ∨ (fitE (x * z) = 0 ∧ fitE (y * z) = 11) ∨ (fitE (x * z) = 0 ∧ fitE (y * z) = 0 ∧ fitE (x + y) = 11) := by
    by_cases h1 : -9223372036854775808 ≤ x * z ∧ x * z ≤ 9223372036854775807
    · by_cases h2 : -9223372036854775808 ≤ y * z ∧ y * z ≤ 9223372036854775807
      · by_cases h3 : -9223372036854775808 ≤ x + y ∧ x + y ≤ 9223372036854775807
        · exact .inl ⟨x * z, y * z, x + y, fitE_in h1.1 h1.2, fitE_in h2.1 h2.2, fitE_in h3.1 h3.2, fitV_in h1.1 h1.2, fitV_in h2.1 h2.2, fitV_in h3.1 h3.2, Int.add_mul x y z, h1, h2, h3⟩
        · exact .inr (.inr (.inr ⟨fitE_in h1.1 h1.2, fitE_in h2.1 h2.2, fitE_out h3⟩))
      · exact .inr (.inr (.inl ⟨fitE_in h1.1 h1.2, fitE_out h2⟩))
    · exact .inr (.inl (fitE_out h1))
  rcases P2 with ⟨P, Q, S, p1, p2, p3, p4, p5, p6, p7, p8, p9, p10⟩ | p1 | ⟨p1, p2⟩ | ⟨p1, p2, p3⟩
  all_goals rcases P1 with ⟨q1, q2, q3, q4, q5, q6⟩ | q1 | ⟨q1, q2⟩
  all_goals
    go_wp2_with (first
      | (go_at_call 10; refine (add_any _ _ _ (by omega) (by omega) (by omega) (by omega)).mono ?_; rintro e w6 ⟨rfl, k6⟩
         replace T := Lib.hid (T.out.next k6)
         clear k6
         have d0 := T.out.c0
         have d1 := T.out.c1
         have d2 := T.out.c2)
      | (go_at_call 12; refine (mul_any _ _ _ (by omega) (by omega) (by omega) (by omega)).mono ?_; rintro e w6 ⟨rfl, k6⟩
         replace T := Lib.hid (T.out.next k6)
         clear k6
         have d0 := T.out.c0
         have d1 := T.out.c1
         have d2 := T.out.c2)
      | (go_at_call 8; refine (awake_yes _).mono ?_; rintro e w8 ⟨rfl, rfl⟩))
    go_ret
    exact ⟨rfl, T.out.bel⟩
end numJoins
end Go.Proofs.Ytpcobmjalohfbaa

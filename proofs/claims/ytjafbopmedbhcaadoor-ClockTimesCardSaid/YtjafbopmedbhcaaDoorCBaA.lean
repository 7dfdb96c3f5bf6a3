/- The walk of ClockBack: it returns true, for every second, date and time of a day; nothing that was in memory changes. The tables read as they are laid. -/
import Derived.Test.YtjafbopmedbhcaaDoorDtx
import Derived.Test.YtjafbopmedbhcaaDoorPrt
import Derived.Test.YtjafbopmedbhcaaDoorCLeA
import Derived.Test.YtjafbopmedbhcaaDoorLaidC
namespace Go.Proofs.YtjafbopmedbhcaaDoor
open Go.RowKit

/-- A date and a time lie in the first two blocks that are new since w, and nothing that was in w has changed. -/
structure BC (w : World) (y m d n k : Int) (W : World) : Prop where
  bel : Below w.heap.size w W
  lt : w.heap.size + 1 < W.heap.size
  d0 : W.cell? ⟨w.heap.size, 0, none⟩ = some (.int .i64 y)
  d1 : W.cell? ⟨w.heap.size, 1, none⟩ = some (.int .i64 m)
  d2 : W.cell? ⟨w.heap.size, 2, none⟩ = some (.int .i64 d)
  c0 : W.cell? ⟨w.heap.size + 1, 0, none⟩ = some (.int .i64 n)
  c1 : W.cell? ⟨w.heap.size + 1, 1, none⟩ = some (.int .i64 k)
theorem BC.new (w : World) (y m d n k : Int) (t u : TypeId) : BC w y m d n k ((w.alloc (.cells #[.int .i64 y, .int .i64 m, .int .i64 d] t)).alloc (.cells #[.int .i64 n, .int .i64 k] u)) := by
  have B := Boxed.new w y m d t
  have B2 := B.next ((Below.refl _ _).alloc (Nat.le_refl _) (.cells #[.int .i64 n, .int .i64 k] u))
  have X := Blk2.new (w.alloc (.cells #[.int .i64 y, .int .i64 m, .int .i64 d] t)) n k u
  have x0 := X.c0
  have x1 := X.c1
  rw [World.size_alloc] at x0 x1
  exact ⟨B2.bel, by simp, B2.c0, B2.c1, B2.c2, x0, x1⟩
theorem BC.next {w W W1 : World} {y m d n k : Int} (h : BC w y m d n k W) (b : Below W.heap.size W W1) : BC w y m d n k W1 := by
  have lt := h.lt
  have l0 : w.heap.size < W.heap.size := by omega
  exact ⟨h.bel.trans (b.mono h.bel.size), Nat.lt_of_lt_of_le lt b.size, by rw [b.cell l0]; exact h.d0, by rw [b.cell l0]; exact h.d1, by rw [b.cell l0]; exact h.d2, by rw [b.cell lt]; exact h.c0, by rw [b.cell lt]; exact h.c1⟩
theorem BC.more {w W : World} {y m d n k : Int} (h : BC w y m d n k W) (o : Obj) : BC w y m d n k (W.alloc o) := h.next ((Below.refl _ _).alloc (Nat.le_refl _) _)

theorem text_is (n : Int) (T : List UInt8) (w : World) (hp : PowAt w) (h : inB n) (hT : Hid (textL n = T)) :
    Calls Tryd.prog 17 #[.int .i64 n] w fun e w' => e = .returned (.tuple #[.string ⟨T.toArray⟩, .int .i64 0]) ∧ Below w.heap.size w w' := by
  have := text_yes n w hp h.1 h.2
  rwa [hT.out] at this

theorem text_far (n : Int) (w : World) (h : ¬ inB n) :
    Calls Tryd.prog 17 #[.int .i64 n] w fun e w' => e = .returned (.tuple #[.string ⟨#[]⟩, .int .i64 10]) ∧ Below w.heap.size w w' := text_no n w h
theorem print_far (n k : Int) (w : World) (h : ¬ inB n) (h0 : 0 ≤ k ∧ k ≤ 2) :
    Calls Tryd.prog 21 #[.agg #[.int .i64 n, .int .i64 k]] w fun e w' => e = .returned (.tuple #[.string ⟨#[]⟩, .int .i64 10]) ∧ Below w.heap.size w w' := print_sec n k w h h0.1 h0.2
theorem print_is (n k : Int) (T S M : List UInt8) (w : World) (h : inB n) (hk : k = 0 ∨ k = 1 ∨ k = 2) (hp : PowAt w) (hm : MarkAt w) (hT : Hid (textL n = T)) (hM : Hid (markL k = M)) (hS : Hid (T ++ M = S)) :
    Calls Tryd.prog 21 #[.agg #[.int .i64 n, .int .i64 k]] w fun e w' => e = .returned (.tuple #[.string ⟨S.toArray⟩, .int .i64 0]) ∧ Below w.heap.size w w' := print_yes n k T S M w h.1 h.2 hk hp hm hT hM hS
theorem time_len {n k : Int} {T S M : List UInt8} (h : inB n) (hT : textL n = T) (hM : markL k = M) (hS : T ++ M = S) : T.length ≤ 1000 ∧ S.length ≤ 1000 := by
  have h1 := textL_len h.1 h.2
  have h2 : (markL k).length ≤ 1 := by
    unfold markL
    split
    · simp
    · split <;> simp
  subst hT hM hS
  rw [List.length_append]
  omega

theorem time_par {n k : Int} {T S : List UInt8} (h : inB n) (hk : k = 0 ∨ k = 1 ∨ k = 2) (hT : textL n = T) (hS : T ++ markL k = S) : parN S = n ∧ parK S = k ∧ parE S = 0 := by
  have sp := textL_span h.1 h.2
  rw [hT] at sp
  subst hS
  rcases hk with rfl | rfl | rfl
  · have := span_par sp.2
    rw [sp.1] at this
    simpa [markL] using this
  · have := par_of (s := T) (kJ_snoc1 T).1 (kJ_snoc1 T).2
    rw [sp.1, sp.2] at this
    simpa [markL] using this
  · have := par_of (s := T) (kJ_snoc2 T).1 (kJ_snoc2 T).2
    rw [sp.1, sp.2] at this
    simpa [markL] using this

theorem ok_70 : okD 1970 1 1 ∧ dayN 1970 1 1 = 0 := ⟨by unfold okD; decide, by decide⟩

set_option maxRecDepth 100000 in
set_option maxHeartbeats 3200000 in
theorem back_no_nd_ok (a y m d n k qa ra : Int) (ha : qa < -37243778 ∨ 35805087 < qa) (hd : ¬ okD y m d) (hf : inB n) (hk : k = 0 ∨ k = 1 ∨ k = 2) (T S M : List UInt8) (hT : textL n = T) (hM : markL k = M) (hS : T ++ M = S) (w : World) (H : Laid3 w) (Hm : MarkAt w) (a1 : -9223372036854775808 ≤ a) (a2 : a ≤ 9223372036854775807) (hqa : a / 86400 = qa) (hra : a % 86400 = ra) :
    Calls Tryd.prog 6 #[.int .i64 a, .agg #[.int .i64 y, .int .i64 m, .int .i64 d], .agg #[.int .i64 n, .int .i64 k]] w fun e w' => e = .returned (.bool true) ∧ Below w.heap.size w w' := by
  have HMK := Lib.hid Hm
  have HQA := Lib.hid hqa
  have HRA := Lib.hid hra
  have B0 := Lib.hid (BC.new w y m d n k 23 44)
  have HL0 := Lib.hid (H.next B0.out.bel)
  have HA := Lib.hid ha
  have HF := Lib.hid hf
  have JB : Hid (¬ (okD y m d ∧ inB n)) := Lib.hid (fun c => hd c.1)
  have Q0 : Hid ((0 : Int) / 86400 = 0) := Lib.hid (by decide)
  have R0 : Hid ((0 : Int) % 86400 = 0) := Lib.hid (by decide)
  have O70 := Lib.hid ok_70.1
  have E70 := Lib.hid ok_70.2
  have tsp := textL_span hf.1 hf.2
  rw [hT] at tsp
  have TSP := Lib.hid tsp
  have HT := Lib.hid hT
  have HM := Lib.hid hM
  have HS := Lib.hid hS
  have tl := time_len hf hT hM hS
  obtain ⟨tl1, tl2⟩ := tl
  have TP := Lib.hid (time_par hf hk hT (by rw [hM, hS]))
  have HK := Lib.hid hk
  clear H hqa hra hk ha hf hd tsp hT hM hS Hm
  go_enter Tryd.func6, Tryd.ntmps6
  go_wp2_with (first
    | (go_at_call 13; ((with_reducible refine (Split_no a qa ra _ a1 a2 HQA HRA HA.out).mono ?_)); rintro e w1 ⟨rfl, kk⟩; simp only []
       have B1 := Lib.hid ((B0.out.next kk).more (.cells #[.int .i64 0, .int .i64 0, .int .i64 0] 23))
       have HL1 := Lib.hid ((HL0.out.next kk).next ((Below.refl _ _).alloc (Nat.le_refl _) (.cells #[.int .i64 0, .int .i64 0, .int .i64 0] 23)))
       have BB := Lib.hid (B0.out.next kk)
       clear kk B0 HL0
       have lt := BB.out.lt
       have d0 := BB.out.d0
       have d1 := BB.out.d1
       have d2 := BB.out.d2
       have c0 := BB.out.c0
       have c1 := BB.out.c1
       have lt0 : w.heap.size < w1.heap.size := by omega
       clear BB)
    | (go_at_call 9; ((with_reducible refine (Join_not y m d n _ HL1.out.ah JB).mono ?_)); rintro e w2 ⟨rfl, kk⟩; simp only []
       have B2 := Lib.hid (B1.out.next kk)
       have HL2 := Lib.hid (HL1.out.next kk)
       clear kk B1 HL1
       clear lt0 lt d0 d1 d2 c0 c1
       have lt := B2.out.lt
       have d0 := B2.out.d0
       have d1 := B2.out.d1
       have d2 := B2.out.d2
       have c0 := B2.out.c0
       have c1 := B2.out.c1
       have lt0 : w.heap.size < w2.heap.size := by omega)
    | (go_at_call 13; ((with_reducible refine (Split_is 0 0 0 1970 1 1 _ HL2.out.ah (by omega) (by omega) Q0 R0 O70.out E70).mono ?_)); rintro e w3 ⟨rfl, kk⟩; simp only []
       have B3 := Lib.hid ((B2.out.next kk).more (.cells #[.int .i64 1970, .int .i64 1, .int .i64 1] 23))
       have HL3 := Lib.hid ((HL2.out.next kk).next ((Below.refl _ _).alloc (Nat.le_refl _) (.cells #[.int .i64 1970, .int .i64 1, .int .i64 1] 23)))
       have BB := Lib.hid (B2.out.next kk)
       clear kk B2 HL2
       clear lt0 lt d0 d1 d2 c0 c1
       have lt := BB.out.lt
       have d0 := BB.out.d0
       have d1 := BB.out.d1
       have d2 := BB.out.d2
       have c0 := BB.out.c0
       have c1 := BB.out.c1
       have lt0 : w.heap.size < w3.heap.size := by omega
       clear BB)
    | (go_at_call 17; ((with_reducible refine (text_is n T _ HL3.out.pow HF.out HT).mono ?_)); rintro e w4 ⟨rfl, kk⟩; simp only []
       have B4 := Lib.hid (B3.out.next kk)
       have HL4 := Lib.hid (HL3.out.next kk)
       clear kk B3 HL3
       clear lt0 lt d0 d1 d2 c0 c1
       have lt := B4.out.lt
       have d0 := B4.out.d0
       have d1 := B4.out.d1
       have d2 := B4.out.d2
       have c0 := B4.out.c0
       have c1 := B4.out.c1
       have lt0 : w.heap.size < w4.heap.size := by omega)
    | (go_at_call 19; ((with_reducible refine (span_is T n 0 _ tl1 HL4.out TSP).mono ?_)); rintro e w5 ⟨rfl, kk⟩; simp only []
       have B5 := Lib.hid (B4.out.next kk)
       have HL5 := Lib.hid (HL4.out.next kk)
       clear kk B4 HL4
       clear lt0 lt d0 d1 d2 c0 c1
       have lt := B5.out.lt
       have d0 := B5.out.d0
       have d1 := B5.out.d1
       have d2 := B5.out.d2
       have c0 := B5.out.c0
       have c1 := B5.out.c1
       have lt0 : w.heap.size < w5.heap.size := by omega)
    | (go_at_call 21; ((with_reducible refine (print_is n k T S M _ HF.out HK.out HL5.out.pow (HMK.out.next (B5.out.bel)) HT HM HS).mono ?_)); rintro e w6 ⟨rfl, kk⟩; simp only []
       have B6 := Lib.hid (B5.out.next kk)
       have HL6 := Lib.hid (HL5.out.next kk)
       clear kk B5 HL5
       clear lt0 lt d0 d1 d2 c0 c1
       have lt := B6.out.lt
       have d0 := B6.out.d0
       have d1 := B6.out.d1
       have d2 := B6.out.d2
       have c0 := B6.out.c0
       have c1 := B6.out.c1
       have lt0 : w.heap.size < w6.heap.size := by omega)
    | (go_at_call 22; ((with_reducible refine (parse_ok S n k _ tl2 HL6.out TP).mono ?_)); rintro e w7 ⟨rfl, kk⟩; simp only []
       have B7 := Lib.hid ((B6.out.next kk).more (.cells #[.int .i64 n, .int .i64 k] 44))
       have HL7 := Lib.hid ((HL6.out.next kk).next ((Below.refl _ _).alloc (Nat.le_refl _) (.cells #[.int .i64 n, .int .i64 k] 44)))
       have BB := Lib.hid (B6.out.next kk)
       clear kk B6 HL6
       clear lt0 lt d0 d1 d2 c0 c1
       have lt := BB.out.lt
       have d0 := BB.out.d0
       have d1 := BB.out.d1
       have d2 := BB.out.d2
       have c0 := BB.out.c0
       have c1 := BB.out.c1
       have lt0 : w.heap.size < w7.heap.size := by omega
       clear BB)
    | (go_at_call 16; refine (awake_yes _ HL7.out).mono ?_; rintro e w99 ⟨rfl, k99⟩; simp only []
       have B99 := Lib.hid (B7.out.next k99)
       clear k99)
    )
  go_ret
  exact ⟨rfl, B99.out.bel⟩

set_option maxRecDepth 100000 in
set_option maxHeartbeats 3200000 in
theorem back_no_nd_bad (a y m d n k qa ra : Int) (ha : qa < -37243778 ∨ 35805087 < qa) (hd : ¬ okD y m d) (hf : inB n) (hk : k < 0 ∨ 2 < k) (T S M : List UInt8) (hT : textL n = T) (hM : markL k = M) (hS : T ++ M = S) (w : World) (H : Laid3 w) (a1 : -9223372036854775808 ≤ a) (a2 : a ≤ 9223372036854775807) (hqa : a / 86400 = qa) (hra : a % 86400 = ra) :
    Calls Tryd.prog 6 #[.int .i64 a, .agg #[.int .i64 y, .int .i64 m, .int .i64 d], .agg #[.int .i64 n, .int .i64 k]] w fun e w' => e = .returned (.bool true) ∧ Below w.heap.size w w' := by
  have HQA := Lib.hid hqa
  have HRA := Lib.hid hra
  have B0 := Lib.hid (BC.new w y m d n k 23 44)
  have HL0 := Lib.hid (H.next B0.out.bel)
  have HA := Lib.hid ha
  have HF := Lib.hid hf
  have JB : Hid (¬ (okD y m d ∧ inB n)) := Lib.hid (fun c => hd c.1)
  have Q0 : Hid ((0 : Int) / 86400 = 0) := Lib.hid (by decide)
  have R0 : Hid ((0 : Int) % 86400 = 0) := Lib.hid (by decide)
  have O70 := Lib.hid ok_70.1
  have E70 := Lib.hid ok_70.2
  have tsp := textL_span hf.1 hf.2
  rw [hT] at tsp
  have TSP := Lib.hid tsp
  have HT := Lib.hid hT
  have HM := Lib.hid hM
  have HS := Lib.hid hS
  have tl := time_len hf hT hM hS
  obtain ⟨tl1, tl2⟩ := tl
  have HK := Lib.hid hk
  clear H hqa hra hk ha hf hd tsp hT hM hS
  go_enter Tryd.func6, Tryd.ntmps6
  go_wp2_with (first
    | (go_at_call 13; ((with_reducible refine (Split_no a qa ra _ a1 a2 HQA HRA HA.out).mono ?_)); rintro e w1 ⟨rfl, kk⟩; simp only []
       have B1 := Lib.hid ((B0.out.next kk).more (.cells #[.int .i64 0, .int .i64 0, .int .i64 0] 23))
       have HL1 := Lib.hid ((HL0.out.next kk).next ((Below.refl _ _).alloc (Nat.le_refl _) (.cells #[.int .i64 0, .int .i64 0, .int .i64 0] 23)))
       have BB := Lib.hid (B0.out.next kk)
       clear kk B0 HL0
       have lt := BB.out.lt
       have d0 := BB.out.d0
       have d1 := BB.out.d1
       have d2 := BB.out.d2
       have c0 := BB.out.c0
       have c1 := BB.out.c1
       have lt0 : w.heap.size < w1.heap.size := by omega
       clear BB)
    | (go_at_call 9; ((with_reducible refine (Join_not y m d n _ HL1.out.ah JB).mono ?_)); rintro e w2 ⟨rfl, kk⟩; simp only []
       have B2 := Lib.hid (B1.out.next kk)
       have HL2 := Lib.hid (HL1.out.next kk)
       clear kk B1 HL1
       clear lt0 lt d0 d1 d2 c0 c1
       have lt := B2.out.lt
       have d0 := B2.out.d0
       have d1 := B2.out.d1
       have d2 := B2.out.d2
       have c0 := B2.out.c0
       have c1 := B2.out.c1
       have lt0 : w.heap.size < w2.heap.size := by omega)
    | (go_at_call 13; ((with_reducible refine (Split_is 0 0 0 1970 1 1 _ HL2.out.ah (by omega) (by omega) Q0 R0 O70.out E70).mono ?_)); rintro e w3 ⟨rfl, kk⟩; simp only []
       have B3 := Lib.hid ((B2.out.next kk).more (.cells #[.int .i64 1970, .int .i64 1, .int .i64 1] 23))
       have HL3 := Lib.hid ((HL2.out.next kk).next ((Below.refl _ _).alloc (Nat.le_refl _) (.cells #[.int .i64 1970, .int .i64 1, .int .i64 1] 23)))
       have BB := Lib.hid (B2.out.next kk)
       clear kk B2 HL2
       clear lt0 lt d0 d1 d2 c0 c1
       have lt := BB.out.lt
       have d0 := BB.out.d0
       have d1 := BB.out.d1
       have d2 := BB.out.d2
       have c0 := BB.out.c0
       have c1 := BB.out.c1
       have lt0 : w.heap.size < w3.heap.size := by omega
       clear BB)
    | (go_at_call 17; ((with_reducible refine (text_is n T _ HL3.out.pow HF.out HT).mono ?_)); rintro e w4 ⟨rfl, kk⟩; simp only []
       have B4 := Lib.hid (B3.out.next kk)
       have HL4 := Lib.hid (HL3.out.next kk)
       clear kk B3 HL3
       clear lt0 lt d0 d1 d2 c0 c1
       have lt := B4.out.lt
       have d0 := B4.out.d0
       have d1 := B4.out.d1
       have d2 := B4.out.d2
       have c0 := B4.out.c0
       have c1 := B4.out.c1
       have lt0 : w.heap.size < w4.heap.size := by omega)
    | (go_at_call 19; ((with_reducible refine (span_is T n 0 _ tl1 HL4.out TSP).mono ?_)); rintro e w5 ⟨rfl, kk⟩; simp only []
       have B5 := Lib.hid (B4.out.next kk)
       have HL5 := Lib.hid (HL4.out.next kk)
       clear kk B4 HL4
       clear lt0 lt d0 d1 d2 c0 c1
       have lt := B5.out.lt
       have d0 := B5.out.d0
       have d1 := B5.out.d1
       have d2 := B5.out.d2
       have c0 := B5.out.c0
       have c1 := B5.out.c1
       have lt0 : w.heap.size < w5.heap.size := by omega)
    | (go_at_call 21; ((with_reducible refine (print_kind n k _ HK.out).mono ?_)); rintro e w6 ⟨rfl, kk⟩; simp only []
       have B6 := Lib.hid (B5.out.next kk)
       have HL6 := Lib.hid (HL5.out.next kk)
       clear kk B5 HL5
       clear lt0 lt d0 d1 d2 c0 c1
       have lt := B6.out.lt
       have d0 := B6.out.d0
       have d1 := B6.out.d1
       have d2 := B6.out.d2
       have c0 := B6.out.c0
       have c1 := B6.out.c1
       have lt0 : w.heap.size < w6.heap.size := by omega)
    | (go_at_call 16; refine (awake_yes _ HL6.out).mono ?_; rintro e w99 ⟨rfl, k99⟩; simp only []
       have B99 := Lib.hid (B6.out.next k99)
       clear k99)
    )
  go_ret
  exact ⟨rfl, B99.out.bel⟩

set_option maxRecDepth 100000 in
set_option maxHeartbeats 3200000 in
theorem back_no_nf_ok (a y m d n k qa ra : Int) (ha : qa < -37243778 ∨ 35805087 < qa) (hf : ¬ inB n) (hk : k = 0 ∨ k = 1 ∨ k = 2)  (w : World) (H : Laid3 w) (a1 : -9223372036854775808 ≤ a) (a2 : a ≤ 9223372036854775807) (hqa : a / 86400 = qa) (hra : a % 86400 = ra) :
    Calls Tryd.prog 6 #[.int .i64 a, .agg #[.int .i64 y, .int .i64 m, .int .i64 d], .agg #[.int .i64 n, .int .i64 k]] w fun e w' => e = .returned (.bool true) ∧ Below w.heap.size w w' := by
  have HQA := Lib.hid hqa
  have HRA := Lib.hid hra
  have B0 := Lib.hid (BC.new w y m d n k 23 44)
  have HL0 := Lib.hid (H.next B0.out.bel)
  have HA := Lib.hid ha
  have HF := Lib.hid hf
  have JB : Hid (¬ (okD y m d ∧ inB n)) := Lib.hid (fun c => hf c.2)
  have Q0 : Hid ((0 : Int) / 86400 = 0) := Lib.hid (by decide)
  have R0 : Hid ((0 : Int) % 86400 = 0) := Lib.hid (by decide)
  have O70 := Lib.hid ok_70.1
  have E70 := Lib.hid ok_70.2
  have HK := Lib.hid hk
  have k1 : 0 ≤ k ∧ k ≤ 2 := by omega
  have K12 := Lib.hid k1
  clear H hqa hra hk ha hf k1
  go_enter Tryd.func6, Tryd.ntmps6
  go_wp2_with (first
    | (go_at_call 13; ((with_reducible refine (Split_no a qa ra _ a1 a2 HQA HRA HA.out).mono ?_)); rintro e w1 ⟨rfl, kk⟩; simp only []
       have B1 := Lib.hid ((B0.out.next kk).more (.cells #[.int .i64 0, .int .i64 0, .int .i64 0] 23))
       have HL1 := Lib.hid ((HL0.out.next kk).next ((Below.refl _ _).alloc (Nat.le_refl _) (.cells #[.int .i64 0, .int .i64 0, .int .i64 0] 23)))
       have BB := Lib.hid (B0.out.next kk)
       clear kk B0 HL0
       have lt := BB.out.lt
       have d0 := BB.out.d0
       have d1 := BB.out.d1
       have d2 := BB.out.d2
       have c0 := BB.out.c0
       have c1 := BB.out.c1
       have lt0 : w.heap.size < w1.heap.size := by omega
       clear BB)
    | (go_at_call 9; ((with_reducible refine (Join_not y m d n _ HL1.out.ah JB).mono ?_)); rintro e w2 ⟨rfl, kk⟩; simp only []
       have B2 := Lib.hid (B1.out.next kk)
       have HL2 := Lib.hid (HL1.out.next kk)
       clear kk B1 HL1
       clear lt0 lt d0 d1 d2 c0 c1
       have lt := B2.out.lt
       have d0 := B2.out.d0
       have d1 := B2.out.d1
       have d2 := B2.out.d2
       have c0 := B2.out.c0
       have c1 := B2.out.c1
       have lt0 : w.heap.size < w2.heap.size := by omega)
    | (go_at_call 13; ((with_reducible refine (Split_is 0 0 0 1970 1 1 _ HL2.out.ah (by omega) (by omega) Q0 R0 O70.out E70).mono ?_)); rintro e w3 ⟨rfl, kk⟩; simp only []
       have B3 := Lib.hid ((B2.out.next kk).more (.cells #[.int .i64 1970, .int .i64 1, .int .i64 1] 23))
       have HL3 := Lib.hid ((HL2.out.next kk).next ((Below.refl _ _).alloc (Nat.le_refl _) (.cells #[.int .i64 1970, .int .i64 1, .int .i64 1] 23)))
       have BB := Lib.hid (B2.out.next kk)
       clear kk B2 HL2
       clear lt0 lt d0 d1 d2 c0 c1
       have lt := BB.out.lt
       have d0 := BB.out.d0
       have d1 := BB.out.d1
       have d2 := BB.out.d2
       have c0 := BB.out.c0
       have c1 := BB.out.c1
       have lt0 : w.heap.size < w3.heap.size := by omega
       clear BB)
    | (go_at_call 17; ((with_reducible refine (text_far n _ HF.out).mono ?_)); rintro e w4 ⟨rfl, kk⟩; simp only []
       have B4 := Lib.hid (B3.out.next kk)
       have HL4 := Lib.hid (HL3.out.next kk)
       clear kk B3 HL3
       clear lt0 lt d0 d1 d2 c0 c1
       have lt := B4.out.lt
       have d0 := B4.out.d0
       have d1 := B4.out.d1
       have d2 := B4.out.d2
       have c0 := B4.out.c0
       have c1 := B4.out.c1
       have lt0 : w.heap.size < w4.heap.size := by omega)
    | (go_at_call 21; ((with_reducible refine (print_far n k _ HF.out K12.out).mono ?_)); rintro e w5 ⟨rfl, kk⟩; simp only []
       have B5 := Lib.hid (B4.out.next kk)
       have HL5 := Lib.hid (HL4.out.next kk)
       clear kk B4 HL4
       clear lt0 lt d0 d1 d2 c0 c1
       have lt := B5.out.lt
       have d0 := B5.out.d0
       have d1 := B5.out.d1
       have d2 := B5.out.d2
       have c0 := B5.out.c0
       have c1 := B5.out.c1
       have lt0 : w.heap.size < w5.heap.size := by omega)
    | (go_at_call 16; refine (awake_yes _ HL5.out).mono ?_; rintro e w99 ⟨rfl, k99⟩; simp only []
       have B99 := Lib.hid (B5.out.next k99)
       clear k99)
    )
  go_ret
  exact ⟨rfl, B99.out.bel⟩

set_option maxRecDepth 100000 in
set_option maxHeartbeats 3200000 in
theorem back_no_nf_bad (a y m d n k qa ra : Int) (ha : qa < -37243778 ∨ 35805087 < qa) (hf : ¬ inB n) (hk : k < 0 ∨ 2 < k)  (w : World) (H : Laid3 w) (a1 : -9223372036854775808 ≤ a) (a2 : a ≤ 9223372036854775807) (hqa : a / 86400 = qa) (hra : a % 86400 = ra) :
    Calls Tryd.prog 6 #[.int .i64 a, .agg #[.int .i64 y, .int .i64 m, .int .i64 d], .agg #[.int .i64 n, .int .i64 k]] w fun e w' => e = .returned (.bool true) ∧ Below w.heap.size w w' := by
  have HQA := Lib.hid hqa
  have HRA := Lib.hid hra
  have B0 := Lib.hid (BC.new w y m d n k 23 44)
  have HL0 := Lib.hid (H.next B0.out.bel)
  have HA := Lib.hid ha
  have HF := Lib.hid hf
  have JB : Hid (¬ (okD y m d ∧ inB n)) := Lib.hid (fun c => hf c.2)
  have Q0 : Hid ((0 : Int) / 86400 = 0) := Lib.hid (by decide)
  have R0 : Hid ((0 : Int) % 86400 = 0) := Lib.hid (by decide)
  have O70 := Lib.hid ok_70.1
  have E70 := Lib.hid ok_70.2
  have HK := Lib.hid hk
  clear H hqa hra hk ha hf
  go_enter Tryd.func6, Tryd.ntmps6
  go_wp2_with (first
    | (go_at_call 13; ((with_reducible refine (Split_no a qa ra _ a1 a2 HQA HRA HA.out).mono ?_)); rintro e w1 ⟨rfl, kk⟩; simp only []
       have B1 := Lib.hid ((B0.out.next kk).more (.cells #[.int .i64 0, .int .i64 0, .int .i64 0] 23))
       have HL1 := Lib.hid ((HL0.out.next kk).next ((Below.refl _ _).alloc (Nat.le_refl _) (.cells #[.int .i64 0, .int .i64 0, .int .i64 0] 23)))
       have BB := Lib.hid (B0.out.next kk)
       clear kk B0 HL0
       have lt := BB.out.lt
       have d0 := BB.out.d0
       have d1 := BB.out.d1
       have d2 := BB.out.d2
       have c0 := BB.out.c0
       have c1 := BB.out.c1
       have lt0 : w.heap.size < w1.heap.size := by omega
       clear BB)
    | (go_at_call 9; ((with_reducible refine (Join_not y m d n _ HL1.out.ah JB).mono ?_)); rintro e w2 ⟨rfl, kk⟩; simp only []
       have B2 := Lib.hid (B1.out.next kk)
       have HL2 := Lib.hid (HL1.out.next kk)
       clear kk B1 HL1
       clear lt0 lt d0 d1 d2 c0 c1
       have lt := B2.out.lt
       have d0 := B2.out.d0
       have d1 := B2.out.d1
       have d2 := B2.out.d2
       have c0 := B2.out.c0
       have c1 := B2.out.c1
       have lt0 : w.heap.size < w2.heap.size := by omega)
    | (go_at_call 13; ((with_reducible refine (Split_is 0 0 0 1970 1 1 _ HL2.out.ah (by omega) (by omega) Q0 R0 O70.out E70).mono ?_)); rintro e w3 ⟨rfl, kk⟩; simp only []
       have B3 := Lib.hid ((B2.out.next kk).more (.cells #[.int .i64 1970, .int .i64 1, .int .i64 1] 23))
       have HL3 := Lib.hid ((HL2.out.next kk).next ((Below.refl _ _).alloc (Nat.le_refl _) (.cells #[.int .i64 1970, .int .i64 1, .int .i64 1] 23)))
       have BB := Lib.hid (B2.out.next kk)
       clear kk B2 HL2
       clear lt0 lt d0 d1 d2 c0 c1
       have lt := BB.out.lt
       have d0 := BB.out.d0
       have d1 := BB.out.d1
       have d2 := BB.out.d2
       have c0 := BB.out.c0
       have c1 := BB.out.c1
       have lt0 : w.heap.size < w3.heap.size := by omega
       clear BB)
    | (go_at_call 17; ((with_reducible refine (text_far n _ HF.out).mono ?_)); rintro e w4 ⟨rfl, kk⟩; simp only []
       have B4 := Lib.hid (B3.out.next kk)
       have HL4 := Lib.hid (HL3.out.next kk)
       clear kk B3 HL3
       clear lt0 lt d0 d1 d2 c0 c1
       have lt := B4.out.lt
       have d0 := B4.out.d0
       have d1 := B4.out.d1
       have d2 := B4.out.d2
       have c0 := B4.out.c0
       have c1 := B4.out.c1
       have lt0 : w.heap.size < w4.heap.size := by omega)
    | (go_at_call 21; ((with_reducible refine (print_kind n k _ HK.out).mono ?_)); rintro e w5 ⟨rfl, kk⟩; simp only []
       have B5 := Lib.hid (B4.out.next kk)
       have HL5 := Lib.hid (HL4.out.next kk)
       clear kk B4 HL4
       clear lt0 lt d0 d1 d2 c0 c1
       have lt := B5.out.lt
       have d0 := B5.out.d0
       have d1 := B5.out.d1
       have d2 := B5.out.d2
       have c0 := B5.out.c0
       have c1 := B5.out.c1
       have lt0 : w.heap.size < w5.heap.size := by omega)
    | (go_at_call 16; refine (awake_yes _ HL5.out).mono ?_; rintro e w99 ⟨rfl, k99⟩; simp only []
       have B99 := Lib.hid (B5.out.next k99)
       clear k99)
    )
  go_ret
  exact ⟨rfl, B99.out.bel⟩

set_option maxRecDepth 100000 in
set_option maxHeartbeats 3200000 in
theorem back_no_on_ok (a y m d n k qa ra : Int) (ha : qa < -37243778 ∨ 35805087 < qa) (u q r : Int) (hd : okD y m d) (hf : inB n) (hu : dayN y m d * 86400 + n = u) (hq : u / 86400 = q) (hr : u % 86400 = r) (hn : q < -37243778 ∨ 35805087 < q) (hk : k = 0 ∨ k = 1 ∨ k = 2) (T S M : List UInt8) (hT : textL n = T) (hM : markL k = M) (hS : T ++ M = S) (w : World) (H : Laid3 w) (Hm : MarkAt w) (a1 : -9223372036854775808 ≤ a) (a2 : a ≤ 9223372036854775807) (hqa : a / 86400 = qa) (hra : a % 86400 = ra) :
    Calls Tryd.prog 6 #[.int .i64 a, .agg #[.int .i64 y, .int .i64 m, .int .i64 d], .agg #[.int .i64 n, .int .i64 k]] w fun e w' => e = .returned (.bool true) ∧ Below w.heap.size w w' := by
  have HMK := Lib.hid Hm
  have HQA := Lib.hid hqa
  have HRA := Lib.hid hra
  have B0 := Lib.hid (BC.new w y m d n k 23 44)
  have HL0 := Lib.hid (H.next B0.out.bel)
  have HA := Lib.hid ha
  have HF := Lib.hid hf
  have dbd := day_bd hd
  have u1 : -9223372036854775808 ≤ u := by unfold inB at hf; omega
  have u2 : u ≤ 9223372036854775807 := by unfold inB at hf; omega
  have JB := Lib.hid (And.intro hd (And.intro hf hu))
  have HQ := Lib.hid hq
  have HR := Lib.hid hr
  have HN := Lib.hid hn
  have tsp := textL_span hf.1 hf.2
  rw [hT] at tsp
  have TSP := Lib.hid tsp
  have HT := Lib.hid hT
  have HM := Lib.hid hM
  have HS := Lib.hid hS
  have tl := time_len hf hT hM hS
  obtain ⟨tl1, tl2⟩ := tl
  have TP := Lib.hid (time_par hf hk hT (by rw [hM, hS]))
  have HK := Lib.hid hk
  clear H hqa hra hk ha hf hd hu hq hr dbd hn tsp hT hM hS Hm
  go_enter Tryd.func6, Tryd.ntmps6
  go_wp2_with (first
    | (go_at_call 13; ((with_reducible refine (Split_no a qa ra _ a1 a2 HQA HRA HA.out).mono ?_)); rintro e w1 ⟨rfl, kk⟩; simp only []
       have B1 := Lib.hid ((B0.out.next kk).more (.cells #[.int .i64 0, .int .i64 0, .int .i64 0] 23))
       have HL1 := Lib.hid ((HL0.out.next kk).next ((Below.refl _ _).alloc (Nat.le_refl _) (.cells #[.int .i64 0, .int .i64 0, .int .i64 0] 23)))
       have BB := Lib.hid (B0.out.next kk)
       clear kk B0 HL0
       have lt := BB.out.lt
       have d0 := BB.out.d0
       have d1 := BB.out.d1
       have d2 := BB.out.d2
       have c0 := BB.out.c0
       have c1 := BB.out.c1
       have lt0 : w.heap.size < w1.heap.size := by omega
       clear BB)
    | (go_at_call 9; ((with_reducible refine (Join_is y m d n u _ HL1.out.ah JB).mono ?_)); rintro e w2 ⟨rfl, kk⟩; simp only []
       have B2 := Lib.hid (B1.out.next kk)
       have HL2 := Lib.hid (HL1.out.next kk)
       clear kk B1 HL1
       clear lt0 lt d0 d1 d2 c0 c1
       have lt := B2.out.lt
       have d0 := B2.out.d0
       have d1 := B2.out.d1
       have d2 := B2.out.d2
       have c0 := B2.out.c0
       have c1 := B2.out.c1
       have lt0 : w.heap.size < w2.heap.size := by omega)
    | (go_at_call 13; ((with_reducible refine (Split_no u q r _ u1 u2 HQ HR HN.out).mono ?_)); rintro e w3 ⟨rfl, kk⟩; simp only []
       have B3 := Lib.hid ((B2.out.next kk).more (.cells #[.int .i64 0, .int .i64 0, .int .i64 0] 23))
       have HL3 := Lib.hid ((HL2.out.next kk).next ((Below.refl _ _).alloc (Nat.le_refl _) (.cells #[.int .i64 0, .int .i64 0, .int .i64 0] 23)))
       have BB := Lib.hid (B2.out.next kk)
       clear kk B2 HL2
       clear lt0 lt d0 d1 d2 c0 c1
       have lt := BB.out.lt
       have d0 := BB.out.d0
       have d1 := BB.out.d1
       have d2 := BB.out.d2
       have c0 := BB.out.c0
       have c1 := BB.out.c1
       have lt0 : w.heap.size < w3.heap.size := by omega
       clear BB)
    | (go_at_call 17; ((with_reducible refine (text_is n T _ HL3.out.pow HF.out HT).mono ?_)); rintro e w4 ⟨rfl, kk⟩; simp only []
       have B4 := Lib.hid (B3.out.next kk)
       have HL4 := Lib.hid (HL3.out.next kk)
       clear kk B3 HL3
       clear lt0 lt d0 d1 d2 c0 c1
       have lt := B4.out.lt
       have d0 := B4.out.d0
       have d1 := B4.out.d1
       have d2 := B4.out.d2
       have c0 := B4.out.c0
       have c1 := B4.out.c1
       have lt0 : w.heap.size < w4.heap.size := by omega)
    | (go_at_call 19; ((with_reducible refine (span_is T n 0 _ tl1 HL4.out TSP).mono ?_)); rintro e w5 ⟨rfl, kk⟩; simp only []
       have B5 := Lib.hid (B4.out.next kk)
       have HL5 := Lib.hid (HL4.out.next kk)
       clear kk B4 HL4
       clear lt0 lt d0 d1 d2 c0 c1
       have lt := B5.out.lt
       have d0 := B5.out.d0
       have d1 := B5.out.d1
       have d2 := B5.out.d2
       have c0 := B5.out.c0
       have c1 := B5.out.c1
       have lt0 : w.heap.size < w5.heap.size := by omega)
    | (go_at_call 21; ((with_reducible refine (print_is n k T S M _ HF.out HK.out HL5.out.pow (HMK.out.next (B5.out.bel)) HT HM HS).mono ?_)); rintro e w6 ⟨rfl, kk⟩; simp only []
       have B6 := Lib.hid (B5.out.next kk)
       have HL6 := Lib.hid (HL5.out.next kk)
       clear kk B5 HL5
       clear lt0 lt d0 d1 d2 c0 c1
       have lt := B6.out.lt
       have d0 := B6.out.d0
       have d1 := B6.out.d1
       have d2 := B6.out.d2
       have c0 := B6.out.c0
       have c1 := B6.out.c1
       have lt0 : w.heap.size < w6.heap.size := by omega)
    | (go_at_call 22; ((with_reducible refine (parse_ok S n k _ tl2 HL6.out TP).mono ?_)); rintro e w7 ⟨rfl, kk⟩; simp only []
       have B7 := Lib.hid ((B6.out.next kk).more (.cells #[.int .i64 n, .int .i64 k] 44))
       have HL7 := Lib.hid ((HL6.out.next kk).next ((Below.refl _ _).alloc (Nat.le_refl _) (.cells #[.int .i64 n, .int .i64 k] 44)))
       have BB := Lib.hid (B6.out.next kk)
       clear kk B6 HL6
       clear lt0 lt d0 d1 d2 c0 c1
       have lt := BB.out.lt
       have d0 := BB.out.d0
       have d1 := BB.out.d1
       have d2 := BB.out.d2
       have c0 := BB.out.c0
       have c1 := BB.out.c1
       have lt0 : w.heap.size < w7.heap.size := by omega
       clear BB)
    | (go_at_call 16; refine (awake_yes _ HL7.out).mono ?_; rintro e w99 ⟨rfl, k99⟩; simp only []
       have B99 := Lib.hid (B7.out.next k99)
       clear k99)
    )
  go_ret
  exact ⟨rfl, B99.out.bel⟩

set_option maxRecDepth 100000 in
set_option maxHeartbeats 3200000 in
theorem back_no_on_bad (a y m d n k qa ra : Int) (ha : qa < -37243778 ∨ 35805087 < qa) (u q r : Int) (hd : okD y m d) (hf : inB n) (hu : dayN y m d * 86400 + n = u) (hq : u / 86400 = q) (hr : u % 86400 = r) (hn : q < -37243778 ∨ 35805087 < q) (hk : k < 0 ∨ 2 < k) (T S M : List UInt8) (hT : textL n = T) (hM : markL k = M) (hS : T ++ M = S) (w : World) (H : Laid3 w) (a1 : -9223372036854775808 ≤ a) (a2 : a ≤ 9223372036854775807) (hqa : a / 86400 = qa) (hra : a % 86400 = ra) :
    Calls Tryd.prog 6 #[.int .i64 a, .agg #[.int .i64 y, .int .i64 m, .int .i64 d], .agg #[.int .i64 n, .int .i64 k]] w fun e w' => e = .returned (.bool true) ∧ Below w.heap.size w w' := by
  have HQA := Lib.hid hqa
  have HRA := Lib.hid hra
  have B0 := Lib.hid (BC.new w y m d n k 23 44)
  have HL0 := Lib.hid (H.next B0.out.bel)
  have HA := Lib.hid ha
  have HF := Lib.hid hf
  have dbd := day_bd hd
  have u1 : -9223372036854775808 ≤ u := by unfold inB at hf; omega
  have u2 : u ≤ 9223372036854775807 := by unfold inB at hf; omega
  have JB := Lib.hid (And.intro hd (And.intro hf hu))
  have HQ := Lib.hid hq
  have HR := Lib.hid hr
  have HN := Lib.hid hn
  have tsp := textL_span hf.1 hf.2
  rw [hT] at tsp
  have TSP := Lib.hid tsp
  have HT := Lib.hid hT
  have HM := Lib.hid hM
  have HS := Lib.hid hS
  have tl := time_len hf hT hM hS
  obtain ⟨tl1, tl2⟩ := tl
  have HK := Lib.hid hk
  clear H hqa hra hk ha hf hd hu hq hr dbd hn tsp hT hM hS
  go_enter Tryd.func6, Tryd.ntmps6
  go_wp2_with (first
    | (go_at_call 13; ((with_reducible refine (Split_no a qa ra _ a1 a2 HQA HRA HA.out).mono ?_)); rintro e w1 ⟨rfl, kk⟩; simp only []
       have B1 := Lib.hid ((B0.out.next kk).more (.cells #[.int .i64 0, .int .i64 0, .int .i64 0] 23))
       have HL1 := Lib.hid ((HL0.out.next kk).next ((Below.refl _ _).alloc (Nat.le_refl _) (.cells #[.int .i64 0, .int .i64 0, .int .i64 0] 23)))
       have BB := Lib.hid (B0.out.next kk)
       clear kk B0 HL0
       have lt := BB.out.lt
       have d0 := BB.out.d0
       have d1 := BB.out.d1
       have d2 := BB.out.d2
       have c0 := BB.out.c0
       have c1 := BB.out.c1
       have lt0 : w.heap.size < w1.heap.size := by omega
       clear BB)
    | (go_at_call 9; ((with_reducible refine (Join_is y m d n u _ HL1.out.ah JB).mono ?_)); rintro e w2 ⟨rfl, kk⟩; simp only []
       have B2 := Lib.hid (B1.out.next kk)
       have HL2 := Lib.hid (HL1.out.next kk)
       clear kk B1 HL1
       clear lt0 lt d0 d1 d2 c0 c1
       have lt := B2.out.lt
       have d0 := B2.out.d0
       have d1 := B2.out.d1
       have d2 := B2.out.d2
       have c0 := B2.out.c0
       have c1 := B2.out.c1
       have lt0 : w.heap.size < w2.heap.size := by omega)
    | (go_at_call 13; ((with_reducible refine (Split_no u q r _ u1 u2 HQ HR HN.out).mono ?_)); rintro e w3 ⟨rfl, kk⟩; simp only []
       have B3 := Lib.hid ((B2.out.next kk).more (.cells #[.int .i64 0, .int .i64 0, .int .i64 0] 23))
       have HL3 := Lib.hid ((HL2.out.next kk).next ((Below.refl _ _).alloc (Nat.le_refl _) (.cells #[.int .i64 0, .int .i64 0, .int .i64 0] 23)))
       have BB := Lib.hid (B2.out.next kk)
       clear kk B2 HL2
       clear lt0 lt d0 d1 d2 c0 c1
       have lt := BB.out.lt
       have d0 := BB.out.d0
       have d1 := BB.out.d1
       have d2 := BB.out.d2
       have c0 := BB.out.c0
       have c1 := BB.out.c1
       have lt0 : w.heap.size < w3.heap.size := by omega
       clear BB)
    | (go_at_call 17; ((with_reducible refine (text_is n T _ HL3.out.pow HF.out HT).mono ?_)); rintro e w4 ⟨rfl, kk⟩; simp only []
       have B4 := Lib.hid (B3.out.next kk)
       have HL4 := Lib.hid (HL3.out.next kk)
       clear kk B3 HL3
       clear lt0 lt d0 d1 d2 c0 c1
       have lt := B4.out.lt
       have d0 := B4.out.d0
       have d1 := B4.out.d1
       have d2 := B4.out.d2
       have c0 := B4.out.c0
       have c1 := B4.out.c1
       have lt0 : w.heap.size < w4.heap.size := by omega)
    | (go_at_call 19; ((with_reducible refine (span_is T n 0 _ tl1 HL4.out TSP).mono ?_)); rintro e w5 ⟨rfl, kk⟩; simp only []
       have B5 := Lib.hid (B4.out.next kk)
       have HL5 := Lib.hid (HL4.out.next kk)
       clear kk B4 HL4
       clear lt0 lt d0 d1 d2 c0 c1
       have lt := B5.out.lt
       have d0 := B5.out.d0
       have d1 := B5.out.d1
       have d2 := B5.out.d2
       have c0 := B5.out.c0
       have c1 := B5.out.c1
       have lt0 : w.heap.size < w5.heap.size := by omega)
    | (go_at_call 21; ((with_reducible refine (print_kind n k _ HK.out).mono ?_)); rintro e w6 ⟨rfl, kk⟩; simp only []
       have B6 := Lib.hid (B5.out.next kk)
       have HL6 := Lib.hid (HL5.out.next kk)
       clear kk B5 HL5
       clear lt0 lt d0 d1 d2 c0 c1
       have lt := B6.out.lt
       have d0 := B6.out.d0
       have d1 := B6.out.d1
       have d2 := B6.out.d2
       have c0 := B6.out.c0
       have c1 := B6.out.c1
       have lt0 : w.heap.size < w6.heap.size := by omega)
    | (go_at_call 16; refine (awake_yes _ HL6.out).mono ?_; rintro e w99 ⟨rfl, k99⟩; simp only []
       have B99 := Lib.hid (B6.out.next k99)
       clear k99)
    )
  go_ret
  exact ⟨rfl, B99.out.bel⟩

set_option maxRecDepth 100000 in
set_option maxHeartbeats 3200000 in
theorem back_no_oy_ok (a y m d n k qa ra : Int) (ha : qa < -37243778 ∨ 35805087 < qa) (u q r yb mb db : Int) (hd : okD y m d) (hf : inB n) (hu : dayN y m d * 86400 + n = u) (hq : u / 86400 = q) (hr : u % 86400 = r) (ob : okD yb mb db) (eb : dayN yb mb db = q) (hk : k = 0 ∨ k = 1 ∨ k = 2) (T S M : List UInt8) (hT : textL n = T) (hM : markL k = M) (hS : T ++ M = S) (w : World) (H : Laid3 w) (Hm : MarkAt w) (a1 : -9223372036854775808 ≤ a) (a2 : a ≤ 9223372036854775807) (hqa : a / 86400 = qa) (hra : a % 86400 = ra) :
    Calls Tryd.prog 6 #[.int .i64 a, .agg #[.int .i64 y, .int .i64 m, .int .i64 d], .agg #[.int .i64 n, .int .i64 k]] w fun e w' => e = .returned (.bool true) ∧ Below w.heap.size w w' := by
  have HMK := Lib.hid Hm
  have HQA := Lib.hid hqa
  have HRA := Lib.hid hra
  have B0 := Lib.hid (BC.new w y m d n k 23 44)
  have HL0 := Lib.hid (H.next B0.out.bel)
  have HA := Lib.hid ha
  have HF := Lib.hid hf
  have dbd := day_bd hd
  have u1 : -9223372036854775808 ≤ u := by unfold inB at hf; omega
  have u2 : u ≤ 9223372036854775807 := by unfold inB at hf; omega
  have JB := Lib.hid (And.intro hd (And.intro hf hu))
  have HQ := Lib.hid hq
  have HR := Lib.hid hr
  have HOB := Lib.hid ob
  have HEB := Lib.hid eb
  obtain ⟨v1, hv1⟩ : ∃ v1, dayN yb mb db * 86400 + 0 = v1 := ⟨_, rfl⟩
  obtain ⟨v2, hv2⟩ : ∃ v2, dayN y m d * 86400 + 0 = v2 := ⟨_, rfl⟩
  have J1 := Lib.hid (And.intro ob (And.intro (show inB 0 by unfold inB; omega) hv1))
  have J2 := Lib.hid (And.intro hd (And.intro (show inB 0 by unfold inB; omega) hv2))
  have bbd := day_bd ob
  have r1 : -1300000 < n - r := by unfold inB at hf; omega
  have r2 : n - r < 1300000 := by unfold inB at hf; omega
  have e1 : v1 - v2 = n - r := by omega
  have e2 : (n - r).tmod 86400 = 0 := Int.tmod_eq_zero_of_dvd ⟨q - dayN y m d, by omega⟩
  have r3 : -9223372036854775808 ≤ v1 - v2 := by omega
  have r4 : v1 - v2 ≤ 9223372036854775807 := by omega
  have tsp := textL_span hf.1 hf.2
  rw [hT] at tsp
  have TSP := Lib.hid tsp
  have HT := Lib.hid hT
  have HM := Lib.hid hM
  have HS := Lib.hid hS
  have tl := time_len hf hT hM hS
  obtain ⟨tl1, tl2⟩ := tl
  have TP := Lib.hid (time_par hf hk hT (by rw [hM, hS]))
  have HK := Lib.hid hk
  clear H hqa hra hk ha hf hd hu hq hr dbd ob eb hv1 hv2 bbd tsp hT hM hS Hm
  go_enter Tryd.func6, Tryd.ntmps6
  go_wp2_with (first
    | (go_at_call 13; ((with_reducible refine (Split_no a qa ra _ a1 a2 HQA HRA HA.out).mono ?_)); rintro e w1 ⟨rfl, kk⟩; simp only []
       have B1 := Lib.hid ((B0.out.next kk).more (.cells #[.int .i64 0, .int .i64 0, .int .i64 0] 23))
       have HL1 := Lib.hid ((HL0.out.next kk).next ((Below.refl _ _).alloc (Nat.le_refl _) (.cells #[.int .i64 0, .int .i64 0, .int .i64 0] 23)))
       have BB := Lib.hid (B0.out.next kk)
       clear kk B0 HL0
       have lt := BB.out.lt
       have d0 := BB.out.d0
       have d1 := BB.out.d1
       have d2 := BB.out.d2
       have c0 := BB.out.c0
       have c1 := BB.out.c1
       have lt0 : w.heap.size < w1.heap.size := by omega
       clear BB)
    | (go_at_call 9; ((with_reducible refine (Join_is y m d n u _ HL1.out.ah JB).mono ?_)); rintro e w2 ⟨rfl, kk⟩; simp only []
       have B2 := Lib.hid (B1.out.next kk)
       have HL2 := Lib.hid (HL1.out.next kk)
       clear kk B1 HL1
       clear lt0 lt d0 d1 d2 c0 c1
       have lt := B2.out.lt
       have d0 := B2.out.d0
       have d1 := B2.out.d1
       have d2 := B2.out.d2
       have c0 := B2.out.c0
       have c1 := B2.out.c1
       have lt0 : w.heap.size < w2.heap.size := by omega)
    | (go_at_call 13; ((with_reducible refine (Split_is u q r yb mb db _ HL2.out.ah u1 u2 HQ HR HOB.out HEB).mono ?_)); rintro e w3 ⟨rfl, kk⟩; simp only []
       have B3 := Lib.hid ((B2.out.next kk).more (.cells #[.int .i64 yb, .int .i64 mb, .int .i64 db] 23))
       have HL3 := Lib.hid ((HL2.out.next kk).next ((Below.refl _ _).alloc (Nat.le_refl _) (.cells #[.int .i64 yb, .int .i64 mb, .int .i64 db] 23)))
       have BB := Lib.hid (B2.out.next kk)
       clear kk B2 HL2
       clear lt0 lt d0 d1 d2 c0 c1
       have lt := BB.out.lt
       have d0 := BB.out.d0
       have d1 := BB.out.d1
       have d2 := BB.out.d2
       have c0 := BB.out.c0
       have c1 := BB.out.c1
       have lt0 : w.heap.size < w3.heap.size := by omega
       clear BB)
    | (go_at_call 9; ((with_reducible refine (Join_is yb mb db 0 v1 _ HL3.out.ah J1).mono ?_)); rintro e w4 ⟨rfl, kk⟩; simp only []
       have B4 := Lib.hid (B3.out.next kk)
       have HL4 := Lib.hid (HL3.out.next kk)
       clear kk B3 HL3
       clear lt0 lt d0 d1 d2 c0 c1
       have lt := B4.out.lt
       have d0 := B4.out.d0
       have d1 := B4.out.d1
       have d2 := B4.out.d2
       have c0 := B4.out.c0
       have c1 := B4.out.c1
       have lt0 : w.heap.size < w4.heap.size := by omega)
    | (go_at_call 9; ((with_reducible refine (Join_is y m d 0 v2 _ HL4.out.ah J2).mono ?_)); rintro e w5 ⟨rfl, kk⟩; simp only []
       have B5 := Lib.hid (B4.out.next kk)
       have HL5 := Lib.hid (HL4.out.next kk)
       clear kk B4 HL4
       clear lt0 lt d0 d1 d2 c0 c1
       have lt := B5.out.lt
       have d0 := B5.out.d0
       have d1 := B5.out.d1
       have d2 := B5.out.d2
       have c0 := B5.out.c0
       have c1 := B5.out.c1
       have lt0 : w.heap.size < w5.heap.size := by omega)
    | (go_at_call 17; ((with_reducible refine (text_is n T _ HL5.out.pow HF.out HT).mono ?_)); rintro e w6 ⟨rfl, kk⟩; simp only []
       have B6 := Lib.hid (B5.out.next kk)
       have HL6 := Lib.hid (HL5.out.next kk)
       clear kk B5 HL5
       clear lt0 lt d0 d1 d2 c0 c1
       have lt := B6.out.lt
       have d0 := B6.out.d0
       have d1 := B6.out.d1
       have d2 := B6.out.d2
       have c0 := B6.out.c0
       have c1 := B6.out.c1
       have lt0 : w.heap.size < w6.heap.size := by omega)
    | (go_at_call 19; ((with_reducible refine (span_is T n 0 _ tl1 HL6.out TSP).mono ?_)); rintro e w7 ⟨rfl, kk⟩; simp only []
       have B7 := Lib.hid (B6.out.next kk)
       have HL7 := Lib.hid (HL6.out.next kk)
       clear kk B6 HL6
       clear lt0 lt d0 d1 d2 c0 c1
       have lt := B7.out.lt
       have d0 := B7.out.d0
       have d1 := B7.out.d1
       have d2 := B7.out.d2
       have c0 := B7.out.c0
       have c1 := B7.out.c1
       have lt0 : w.heap.size < w7.heap.size := by omega)
    | (go_at_call 21; ((with_reducible refine (print_is n k T S M _ HF.out HK.out HL7.out.pow (HMK.out.next (B7.out.bel)) HT HM HS).mono ?_)); rintro e w8 ⟨rfl, kk⟩; simp only []
       have B8 := Lib.hid (B7.out.next kk)
       have HL8 := Lib.hid (HL7.out.next kk)
       clear kk B7 HL7
       clear lt0 lt d0 d1 d2 c0 c1
       have lt := B8.out.lt
       have d0 := B8.out.d0
       have d1 := B8.out.d1
       have d2 := B8.out.d2
       have c0 := B8.out.c0
       have c1 := B8.out.c1
       have lt0 : w.heap.size < w8.heap.size := by omega)
    | (go_at_call 22; ((with_reducible refine (parse_ok S n k _ tl2 HL8.out TP).mono ?_)); rintro e w9 ⟨rfl, kk⟩; simp only []
       have B9 := Lib.hid ((B8.out.next kk).more (.cells #[.int .i64 n, .int .i64 k] 44))
       have HL9 := Lib.hid ((HL8.out.next kk).next ((Below.refl _ _).alloc (Nat.le_refl _) (.cells #[.int .i64 n, .int .i64 k] 44)))
       have BB := Lib.hid (B8.out.next kk)
       clear kk B8 HL8
       clear lt0 lt d0 d1 d2 c0 c1
       have lt := BB.out.lt
       have d0 := BB.out.d0
       have d1 := BB.out.d1
       have d2 := BB.out.d2
       have c0 := BB.out.c0
       have c1 := BB.out.c1
       have lt0 : w.heap.size < w9.heap.size := by omega
       clear BB)
    | (go_at_call 16; refine (awake_yes _ HL9.out).mono ?_; rintro e w99 ⟨rfl, k99⟩; simp only []
       have B99 := Lib.hid (B9.out.next k99)
       clear k99)
    )
  go_ret
  exact ⟨rfl, B99.out.bel⟩

set_option maxRecDepth 100000 in
set_option maxHeartbeats 3200000 in
theorem back_no_oy_bad (a y m d n k qa ra : Int) (ha : qa < -37243778 ∨ 35805087 < qa) (u q r yb mb db : Int) (hd : okD y m d) (hf : inB n) (hu : dayN y m d * 86400 + n = u) (hq : u / 86400 = q) (hr : u % 86400 = r) (ob : okD yb mb db) (eb : dayN yb mb db = q) (hk : k < 0 ∨ 2 < k) (T S M : List UInt8) (hT : textL n = T) (hM : markL k = M) (hS : T ++ M = S) (w : World) (H : Laid3 w) (a1 : -9223372036854775808 ≤ a) (a2 : a ≤ 9223372036854775807) (hqa : a / 86400 = qa) (hra : a % 86400 = ra) :
    Calls Tryd.prog 6 #[.int .i64 a, .agg #[.int .i64 y, .int .i64 m, .int .i64 d], .agg #[.int .i64 n, .int .i64 k]] w fun e w' => e = .returned (.bool true) ∧ Below w.heap.size w w' := by
  have HQA := Lib.hid hqa
  have HRA := Lib.hid hra
  have B0 := Lib.hid (BC.new w y m d n k 23 44)
  have HL0 := Lib.hid (H.next B0.out.bel)
  have HA := Lib.hid ha
  have HF := Lib.hid hf
  have dbd := day_bd hd
  have u1 : -9223372036854775808 ≤ u := by unfold inB at hf; omega
  have u2 : u ≤ 9223372036854775807 := by unfold inB at hf; omega
  have JB := Lib.hid (And.intro hd (And.intro hf hu))
  have HQ := Lib.hid hq
  have HR := Lib.hid hr
  have HOB := Lib.hid ob
  have HEB := Lib.hid eb
  obtain ⟨v1, hv1⟩ : ∃ v1, dayN yb mb db * 86400 + 0 = v1 := ⟨_, rfl⟩
  obtain ⟨v2, hv2⟩ : ∃ v2, dayN y m d * 86400 + 0 = v2 := ⟨_, rfl⟩
  have J1 := Lib.hid (And.intro ob (And.intro (show inB 0 by unfold inB; omega) hv1))
  have J2 := Lib.hid (And.intro hd (And.intro (show inB 0 by unfold inB; omega) hv2))
  have bbd := day_bd ob
  have r1 : -1300000 < n - r := by unfold inB at hf; omega
  have r2 : n - r < 1300000 := by unfold inB at hf; omega
  have e1 : v1 - v2 = n - r := by omega
  have e2 : (n - r).tmod 86400 = 0 := Int.tmod_eq_zero_of_dvd ⟨q - dayN y m d, by omega⟩
  have r3 : -9223372036854775808 ≤ v1 - v2 := by omega
  have r4 : v1 - v2 ≤ 9223372036854775807 := by omega
  have tsp := textL_span hf.1 hf.2
  rw [hT] at tsp
  have TSP := Lib.hid tsp
  have HT := Lib.hid hT
  have HM := Lib.hid hM
  have HS := Lib.hid hS
  have tl := time_len hf hT hM hS
  obtain ⟨tl1, tl2⟩ := tl
  have HK := Lib.hid hk
  clear H hqa hra hk ha hf hd hu hq hr dbd ob eb hv1 hv2 bbd tsp hT hM hS
  go_enter Tryd.func6, Tryd.ntmps6
  go_wp2_with (first
    | (go_at_call 13; ((with_reducible refine (Split_no a qa ra _ a1 a2 HQA HRA HA.out).mono ?_)); rintro e w1 ⟨rfl, kk⟩; simp only []
       have B1 := Lib.hid ((B0.out.next kk).more (.cells #[.int .i64 0, .int .i64 0, .int .i64 0] 23))
       have HL1 := Lib.hid ((HL0.out.next kk).next ((Below.refl _ _).alloc (Nat.le_refl _) (.cells #[.int .i64 0, .int .i64 0, .int .i64 0] 23)))
       have BB := Lib.hid (B0.out.next kk)
       clear kk B0 HL0
       have lt := BB.out.lt
       have d0 := BB.out.d0
       have d1 := BB.out.d1
       have d2 := BB.out.d2
       have c0 := BB.out.c0
       have c1 := BB.out.c1
       have lt0 : w.heap.size < w1.heap.size := by omega
       clear BB)
    | (go_at_call 9; ((with_reducible refine (Join_is y m d n u _ HL1.out.ah JB).mono ?_)); rintro e w2 ⟨rfl, kk⟩; simp only []
       have B2 := Lib.hid (B1.out.next kk)
       have HL2 := Lib.hid (HL1.out.next kk)
       clear kk B1 HL1
       clear lt0 lt d0 d1 d2 c0 c1
       have lt := B2.out.lt
       have d0 := B2.out.d0
       have d1 := B2.out.d1
       have d2 := B2.out.d2
       have c0 := B2.out.c0
       have c1 := B2.out.c1
       have lt0 : w.heap.size < w2.heap.size := by omega)
    | (go_at_call 13; ((with_reducible refine (Split_is u q r yb mb db _ HL2.out.ah u1 u2 HQ HR HOB.out HEB).mono ?_)); rintro e w3 ⟨rfl, kk⟩; simp only []
       have B3 := Lib.hid ((B2.out.next kk).more (.cells #[.int .i64 yb, .int .i64 mb, .int .i64 db] 23))
       have HL3 := Lib.hid ((HL2.out.next kk).next ((Below.refl _ _).alloc (Nat.le_refl _) (.cells #[.int .i64 yb, .int .i64 mb, .int .i64 db] 23)))
       have BB := Lib.hid (B2.out.next kk)
       clear kk B2 HL2
       clear lt0 lt d0 d1 d2 c0 c1
       have lt := BB.out.lt
       have d0 := BB.out.d0
       have d1 := BB.out.d1
       have d2 := BB.out.d2
       have c0 := BB.out.c0
       have c1 := BB.out.c1
       have lt0 : w.heap.size < w3.heap.size := by omega
       clear BB)
    | (go_at_call 9; ((with_reducible refine (Join_is yb mb db 0 v1 _ HL3.out.ah J1).mono ?_)); rintro e w4 ⟨rfl, kk⟩; simp only []
       have B4 := Lib.hid (B3.out.next kk)
       have HL4 := Lib.hid (HL3.out.next kk)
       clear kk B3 HL3
       clear lt0 lt d0 d1 d2 c0 c1
       have lt := B4.out.lt
       have d0 := B4.out.d0
       have d1 := B4.out.d1
       have d2 := B4.out.d2
       have c0 := B4.out.c0
       have c1 := B4.out.c1
       have lt0 : w.heap.size < w4.heap.size := by omega)
    | (go_at_call 9; ((with_reducible refine (Join_is y m d 0 v2 _ HL4.out.ah J2).mono ?_)); rintro e w5 ⟨rfl, kk⟩; simp only []
       have B5 := Lib.hid (B4.out.next kk)
       have HL5 := Lib.hid (HL4.out.next kk)
       clear kk B4 HL4
       clear lt0 lt d0 d1 d2 c0 c1
       have lt := B5.out.lt
       have d0 := B5.out.d0
       have d1 := B5.out.d1
       have d2 := B5.out.d2
       have c0 := B5.out.c0
       have c1 := B5.out.c1
       have lt0 : w.heap.size < w5.heap.size := by omega)
    | (go_at_call 17; ((with_reducible refine (text_is n T _ HL5.out.pow HF.out HT).mono ?_)); rintro e w6 ⟨rfl, kk⟩; simp only []
       have B6 := Lib.hid (B5.out.next kk)
       have HL6 := Lib.hid (HL5.out.next kk)
       clear kk B5 HL5
       clear lt0 lt d0 d1 d2 c0 c1
       have lt := B6.out.lt
       have d0 := B6.out.d0
       have d1 := B6.out.d1
       have d2 := B6.out.d2
       have c0 := B6.out.c0
       have c1 := B6.out.c1
       have lt0 : w.heap.size < w6.heap.size := by omega)
    | (go_at_call 19; ((with_reducible refine (span_is T n 0 _ tl1 HL6.out TSP).mono ?_)); rintro e w7 ⟨rfl, kk⟩; simp only []
       have B7 := Lib.hid (B6.out.next kk)
       have HL7 := Lib.hid (HL6.out.next kk)
       clear kk B6 HL6
       clear lt0 lt d0 d1 d2 c0 c1
       have lt := B7.out.lt
       have d0 := B7.out.d0
       have d1 := B7.out.d1
       have d2 := B7.out.d2
       have c0 := B7.out.c0
       have c1 := B7.out.c1
       have lt0 : w.heap.size < w7.heap.size := by omega)
    | (go_at_call 21; ((with_reducible refine (print_kind n k _ HK.out).mono ?_)); rintro e w8 ⟨rfl, kk⟩; simp only []
       have B8 := Lib.hid (B7.out.next kk)
       have HL8 := Lib.hid (HL7.out.next kk)
       clear kk B7 HL7
       clear lt0 lt d0 d1 d2 c0 c1
       have lt := B8.out.lt
       have d0 := B8.out.d0
       have d1 := B8.out.d1
       have d2 := B8.out.d2
       have c0 := B8.out.c0
       have c1 := B8.out.c1
       have lt0 : w.heap.size < w8.heap.size := by omega)
    | (go_at_call 16; refine (awake_yes _ HL8.out).mono ?_; rintro e w99 ⟨rfl, k99⟩; simp only []
       have B99 := Lib.hid (B8.out.next k99)
       clear k99)
    )
  go_ret
  exact ⟨rfl, B99.out.bel⟩

set_option maxRecDepth 100000 in
set_option maxHeartbeats 3200000 in
theorem back_yes_nd_ok (a y m d n k qa ra : Int) (ya ma da : Int) (oa : okD ya ma da) (ea : dayN ya ma da = qa) (hd : ¬ okD y m d) (hf : inB n) (hk : k = 0 ∨ k = 1 ∨ k = 2) (T S M : List UInt8) (hT : textL n = T) (hM : markL k = M) (hS : T ++ M = S) (w : World) (H : Laid3 w) (Hm : MarkAt w) (a1 : -9223372036854775808 ≤ a) (a2 : a ≤ 9223372036854775807) (hqa : a / 86400 = qa) (hra : a % 86400 = ra) :
    Calls Tryd.prog 6 #[.int .i64 a, .agg #[.int .i64 y, .int .i64 m, .int .i64 d], .agg #[.int .i64 n, .int .i64 k]] w fun e w' => e = .returned (.bool true) ∧ Below w.heap.size w w' := by
  have HMK := Lib.hid Hm
  have HQA := Lib.hid hqa
  have HRA := Lib.hid hra
  have B0 := Lib.hid (BC.new w y m d n k 23 44)
  have HL0 := Lib.hid (H.next B0.out.bel)
  have HA := Lib.hid oa
  have HEA := Lib.hid ea
  have ra1 : 0 ≤ ra := by omega
  have ra2 : ra ≤ 86399 := by omega
  have JA := Lib.hid (And.intro oa (And.intro (show inB ra by unfold inB; omega) (show dayN ya ma da * 86400 + ra = a by omega)))
  have HF := Lib.hid hf
  have JB : Hid (¬ (okD y m d ∧ inB n)) := Lib.hid (fun c => hd c.1)
  have Q0 : Hid ((0 : Int) / 86400 = 0) := Lib.hid (by decide)
  have R0 : Hid ((0 : Int) % 86400 = 0) := Lib.hid (by decide)
  have O70 := Lib.hid ok_70.1
  have E70 := Lib.hid ok_70.2
  have tsp := textL_span hf.1 hf.2
  rw [hT] at tsp
  have TSP := Lib.hid tsp
  have HT := Lib.hid hT
  have HM := Lib.hid hM
  have HS := Lib.hid hS
  have tl := time_len hf hT hM hS
  obtain ⟨tl1, tl2⟩ := tl
  have TP := Lib.hid (time_par hf hk hT (by rw [hM, hS]))
  have HK := Lib.hid hk
  clear H hqa hra hk oa ea hf hd tsp hT hM hS Hm
  go_enter Tryd.func6, Tryd.ntmps6
  go_wp2_with (first
    | (go_at_call 13; ((with_reducible refine (Split_is a qa ra ya ma da _ HL0.out.ah a1 a2 HQA HRA HA.out HEA).mono ?_)); rintro e w1 ⟨rfl, kk⟩; simp only []
       have B1 := Lib.hid ((B0.out.next kk).more (.cells #[.int .i64 ya, .int .i64 ma, .int .i64 da] 23))
       have HL1 := Lib.hid ((HL0.out.next kk).next ((Below.refl _ _).alloc (Nat.le_refl _) (.cells #[.int .i64 ya, .int .i64 ma, .int .i64 da] 23)))
       have BB := Lib.hid (B0.out.next kk)
       clear kk B0 HL0
       have lt := BB.out.lt
       have d0 := BB.out.d0
       have d1 := BB.out.d1
       have d2 := BB.out.d2
       have c0 := BB.out.c0
       have c1 := BB.out.c1
       have lt0 : w.heap.size < w1.heap.size := by omega
       clear BB)
    | (go_at_call 9; ((with_reducible refine (Join_is ya ma da ra a _ HL1.out.ah JA).mono ?_)); rintro e w2 ⟨rfl, kk⟩; simp only []
       have B2 := Lib.hid (B1.out.next kk)
       have HL2 := Lib.hid (HL1.out.next kk)
       clear kk B1 HL1
       clear lt0 lt d0 d1 d2 c0 c1
       have lt := B2.out.lt
       have d0 := B2.out.d0
       have d1 := B2.out.d1
       have d2 := B2.out.d2
       have c0 := B2.out.c0
       have c1 := B2.out.c1
       have lt0 : w.heap.size < w2.heap.size := by omega)
    | (go_at_call 9; ((with_reducible refine (Join_not y m d n _ HL2.out.ah JB).mono ?_)); rintro e w3 ⟨rfl, kk⟩; simp only []
       have B3 := Lib.hid (B2.out.next kk)
       have HL3 := Lib.hid (HL2.out.next kk)
       clear kk B2 HL2
       clear lt0 lt d0 d1 d2 c0 c1
       have lt := B3.out.lt
       have d0 := B3.out.d0
       have d1 := B3.out.d1
       have d2 := B3.out.d2
       have c0 := B3.out.c0
       have c1 := B3.out.c1
       have lt0 : w.heap.size < w3.heap.size := by omega)
    | (go_at_call 13; ((with_reducible refine (Split_is 0 0 0 1970 1 1 _ HL3.out.ah (by omega) (by omega) Q0 R0 O70.out E70).mono ?_)); rintro e w4 ⟨rfl, kk⟩; simp only []
       have B4 := Lib.hid ((B3.out.next kk).more (.cells #[.int .i64 1970, .int .i64 1, .int .i64 1] 23))
       have HL4 := Lib.hid ((HL3.out.next kk).next ((Below.refl _ _).alloc (Nat.le_refl _) (.cells #[.int .i64 1970, .int .i64 1, .int .i64 1] 23)))
       have BB := Lib.hid (B3.out.next kk)
       clear kk B3 HL3
       clear lt0 lt d0 d1 d2 c0 c1
       have lt := BB.out.lt
       have d0 := BB.out.d0
       have d1 := BB.out.d1
       have d2 := BB.out.d2
       have c0 := BB.out.c0
       have c1 := BB.out.c1
       have lt0 : w.heap.size < w4.heap.size := by omega
       clear BB)
    | (go_at_call 17; ((with_reducible refine (text_is n T _ HL4.out.pow HF.out HT).mono ?_)); rintro e w5 ⟨rfl, kk⟩; simp only []
       have B5 := Lib.hid (B4.out.next kk)
       have HL5 := Lib.hid (HL4.out.next kk)
       clear kk B4 HL4
       clear lt0 lt d0 d1 d2 c0 c1
       have lt := B5.out.lt
       have d0 := B5.out.d0
       have d1 := B5.out.d1
       have d2 := B5.out.d2
       have c0 := B5.out.c0
       have c1 := B5.out.c1
       have lt0 : w.heap.size < w5.heap.size := by omega)
    | (go_at_call 19; ((with_reducible refine (span_is T n 0 _ tl1 HL5.out TSP).mono ?_)); rintro e w6 ⟨rfl, kk⟩; simp only []
       have B6 := Lib.hid (B5.out.next kk)
       have HL6 := Lib.hid (HL5.out.next kk)
       clear kk B5 HL5
       clear lt0 lt d0 d1 d2 c0 c1
       have lt := B6.out.lt
       have d0 := B6.out.d0
       have d1 := B6.out.d1
       have d2 := B6.out.d2
       have c0 := B6.out.c0
       have c1 := B6.out.c1
       have lt0 : w.heap.size < w6.heap.size := by omega)
    | (go_at_call 21; ((with_reducible refine (print_is n k T S M _ HF.out HK.out HL6.out.pow (HMK.out.next (B6.out.bel)) HT HM HS).mono ?_)); rintro e w7 ⟨rfl, kk⟩; simp only []
       have B7 := Lib.hid (B6.out.next kk)
       have HL7 := Lib.hid (HL6.out.next kk)
       clear kk B6 HL6
       clear lt0 lt d0 d1 d2 c0 c1
       have lt := B7.out.lt
       have d0 := B7.out.d0
       have d1 := B7.out.d1
       have d2 := B7.out.d2
       have c0 := B7.out.c0
       have c1 := B7.out.c1
       have lt0 : w.heap.size < w7.heap.size := by omega)
    | (go_at_call 22; ((with_reducible refine (parse_ok S n k _ tl2 HL7.out TP).mono ?_)); rintro e w8 ⟨rfl, kk⟩; simp only []
       have B8 := Lib.hid ((B7.out.next kk).more (.cells #[.int .i64 n, .int .i64 k] 44))
       have HL8 := Lib.hid ((HL7.out.next kk).next ((Below.refl _ _).alloc (Nat.le_refl _) (.cells #[.int .i64 n, .int .i64 k] 44)))
       have BB := Lib.hid (B7.out.next kk)
       clear kk B7 HL7
       clear lt0 lt d0 d1 d2 c0 c1
       have lt := BB.out.lt
       have d0 := BB.out.d0
       have d1 := BB.out.d1
       have d2 := BB.out.d2
       have c0 := BB.out.c0
       have c1 := BB.out.c1
       have lt0 : w.heap.size < w8.heap.size := by omega
       clear BB)
    | (go_at_call 16; refine (awake_yes _ HL8.out).mono ?_; rintro e w99 ⟨rfl, k99⟩; simp only []
       have B99 := Lib.hid (B8.out.next k99)
       clear k99)
    )
  go_ret
  exact ⟨rfl, B99.out.bel⟩

set_option maxRecDepth 100000 in
set_option maxHeartbeats 3200000 in
theorem back_yes_nd_bad (a y m d n k qa ra : Int) (ya ma da : Int) (oa : okD ya ma da) (ea : dayN ya ma da = qa) (hd : ¬ okD y m d) (hf : inB n) (hk : k < 0 ∨ 2 < k) (T S M : List UInt8) (hT : textL n = T) (hM : markL k = M) (hS : T ++ M = S) (w : World) (H : Laid3 w) (a1 : -9223372036854775808 ≤ a) (a2 : a ≤ 9223372036854775807) (hqa : a / 86400 = qa) (hra : a % 86400 = ra) :
    Calls Tryd.prog 6 #[.int .i64 a, .agg #[.int .i64 y, .int .i64 m, .int .i64 d], .agg #[.int .i64 n, .int .i64 k]] w fun e w' => e = .returned (.bool true) ∧ Below w.heap.size w w' := by
  have HQA := Lib.hid hqa
  have HRA := Lib.hid hra
  have B0 := Lib.hid (BC.new w y m d n k 23 44)
  have HL0 := Lib.hid (H.next B0.out.bel)
  have HA := Lib.hid oa
  have HEA := Lib.hid ea
  have ra1 : 0 ≤ ra := by omega
  have ra2 : ra ≤ 86399 := by omega
  have JA := Lib.hid (And.intro oa (And.intro (show inB ra by unfold inB; omega) (show dayN ya ma da * 86400 + ra = a by omega)))
  have HF := Lib.hid hf
  have JB : Hid (¬ (okD y m d ∧ inB n)) := Lib.hid (fun c => hd c.1)
  have Q0 : Hid ((0 : Int) / 86400 = 0) := Lib.hid (by decide)
  have R0 : Hid ((0 : Int) % 86400 = 0) := Lib.hid (by decide)
  have O70 := Lib.hid ok_70.1
  have E70 := Lib.hid ok_70.2
  have tsp := textL_span hf.1 hf.2
  rw [hT] at tsp
  have TSP := Lib.hid tsp
  have HT := Lib.hid hT
  have HM := Lib.hid hM
  have HS := Lib.hid hS
  have tl := time_len hf hT hM hS
  obtain ⟨tl1, tl2⟩ := tl
  have HK := Lib.hid hk
  clear H hqa hra hk oa ea hf hd tsp hT hM hS
  go_enter Tryd.func6, Tryd.ntmps6
  go_wp2_with (first
    | (go_at_call 13; ((with_reducible refine (Split_is a qa ra ya ma da _ HL0.out.ah a1 a2 HQA HRA HA.out HEA).mono ?_)); rintro e w1 ⟨rfl, kk⟩; simp only []
       have B1 := Lib.hid ((B0.out.next kk).more (.cells #[.int .i64 ya, .int .i64 ma, .int .i64 da] 23))
       have HL1 := Lib.hid ((HL0.out.next kk).next ((Below.refl _ _).alloc (Nat.le_refl _) (.cells #[.int .i64 ya, .int .i64 ma, .int .i64 da] 23)))
       have BB := Lib.hid (B0.out.next kk)
       clear kk B0 HL0
       have lt := BB.out.lt
       have d0 := BB.out.d0
       have d1 := BB.out.d1
       have d2 := BB.out.d2
       have c0 := BB.out.c0
       have c1 := BB.out.c1
       have lt0 : w.heap.size < w1.heap.size := by omega
       clear BB)
    | (go_at_call 9; ((with_reducible refine (Join_is ya ma da ra a _ HL1.out.ah JA).mono ?_)); rintro e w2 ⟨rfl, kk⟩; simp only []
       have B2 := Lib.hid (B1.out.next kk)
       have HL2 := Lib.hid (HL1.out.next kk)
       clear kk B1 HL1
       clear lt0 lt d0 d1 d2 c0 c1
       have lt := B2.out.lt
       have d0 := B2.out.d0
       have d1 := B2.out.d1
       have d2 := B2.out.d2
       have c0 := B2.out.c0
       have c1 := B2.out.c1
       have lt0 : w.heap.size < w2.heap.size := by omega)
    | (go_at_call 9; ((with_reducible refine (Join_not y m d n _ HL2.out.ah JB).mono ?_)); rintro e w3 ⟨rfl, kk⟩; simp only []
       have B3 := Lib.hid (B2.out.next kk)
       have HL3 := Lib.hid (HL2.out.next kk)
       clear kk B2 HL2
       clear lt0 lt d0 d1 d2 c0 c1
       have lt := B3.out.lt
       have d0 := B3.out.d0
       have d1 := B3.out.d1
       have d2 := B3.out.d2
       have c0 := B3.out.c0
       have c1 := B3.out.c1
       have lt0 : w.heap.size < w3.heap.size := by omega)
    | (go_at_call 13; ((with_reducible refine (Split_is 0 0 0 1970 1 1 _ HL3.out.ah (by omega) (by omega) Q0 R0 O70.out E70).mono ?_)); rintro e w4 ⟨rfl, kk⟩; simp only []
       have B4 := Lib.hid ((B3.out.next kk).more (.cells #[.int .i64 1970, .int .i64 1, .int .i64 1] 23))
       have HL4 := Lib.hid ((HL3.out.next kk).next ((Below.refl _ _).alloc (Nat.le_refl _) (.cells #[.int .i64 1970, .int .i64 1, .int .i64 1] 23)))
       have BB := Lib.hid (B3.out.next kk)
       clear kk B3 HL3
       clear lt0 lt d0 d1 d2 c0 c1
       have lt := BB.out.lt
       have d0 := BB.out.d0
       have d1 := BB.out.d1
       have d2 := BB.out.d2
       have c0 := BB.out.c0
       have c1 := BB.out.c1
       have lt0 : w.heap.size < w4.heap.size := by omega
       clear BB)
    | (go_at_call 17; ((with_reducible refine (text_is n T _ HL4.out.pow HF.out HT).mono ?_)); rintro e w5 ⟨rfl, kk⟩; simp only []
       have B5 := Lib.hid (B4.out.next kk)
       have HL5 := Lib.hid (HL4.out.next kk)
       clear kk B4 HL4
       clear lt0 lt d0 d1 d2 c0 c1
       have lt := B5.out.lt
       have d0 := B5.out.d0
       have d1 := B5.out.d1
       have d2 := B5.out.d2
       have c0 := B5.out.c0
       have c1 := B5.out.c1
       have lt0 : w.heap.size < w5.heap.size := by omega)
    | (go_at_call 19; ((with_reducible refine (span_is T n 0 _ tl1 HL5.out TSP).mono ?_)); rintro e w6 ⟨rfl, kk⟩; simp only []
       have B6 := Lib.hid (B5.out.next kk)
       have HL6 := Lib.hid (HL5.out.next kk)
       clear kk B5 HL5
       clear lt0 lt d0 d1 d2 c0 c1
       have lt := B6.out.lt
       have d0 := B6.out.d0
       have d1 := B6.out.d1
       have d2 := B6.out.d2
       have c0 := B6.out.c0
       have c1 := B6.out.c1
       have lt0 : w.heap.size < w6.heap.size := by omega)
    | (go_at_call 21; ((with_reducible refine (print_kind n k _ HK.out).mono ?_)); rintro e w7 ⟨rfl, kk⟩; simp only []
       have B7 := Lib.hid (B6.out.next kk)
       have HL7 := Lib.hid (HL6.out.next kk)
       clear kk B6 HL6
       clear lt0 lt d0 d1 d2 c0 c1
       have lt := B7.out.lt
       have d0 := B7.out.d0
       have d1 := B7.out.d1
       have d2 := B7.out.d2
       have c0 := B7.out.c0
       have c1 := B7.out.c1
       have lt0 : w.heap.size < w7.heap.size := by omega)
    | (go_at_call 16; refine (awake_yes _ HL7.out).mono ?_; rintro e w99 ⟨rfl, k99⟩; simp only []
       have B99 := Lib.hid (B7.out.next k99)
       clear k99)
    )
  go_ret
  exact ⟨rfl, B99.out.bel⟩

set_option maxRecDepth 100000 in
set_option maxHeartbeats 3200000 in
theorem back_yes_nf_ok (a y m d n k qa ra : Int) (ya ma da : Int) (oa : okD ya ma da) (ea : dayN ya ma da = qa) (hf : ¬ inB n) (hk : k = 0 ∨ k = 1 ∨ k = 2)  (w : World) (H : Laid3 w) (a1 : -9223372036854775808 ≤ a) (a2 : a ≤ 9223372036854775807) (hqa : a / 86400 = qa) (hra : a % 86400 = ra) :
    Calls Tryd.prog 6 #[.int .i64 a, .agg #[.int .i64 y, .int .i64 m, .int .i64 d], .agg #[.int .i64 n, .int .i64 k]] w fun e w' => e = .returned (.bool true) ∧ Below w.heap.size w w' := by
  have HQA := Lib.hid hqa
  have HRA := Lib.hid hra
  have B0 := Lib.hid (BC.new w y m d n k 23 44)
  have HL0 := Lib.hid (H.next B0.out.bel)
  have HA := Lib.hid oa
  have HEA := Lib.hid ea
  have ra1 : 0 ≤ ra := by omega
  have ra2 : ra ≤ 86399 := by omega
  have JA := Lib.hid (And.intro oa (And.intro (show inB ra by unfold inB; omega) (show dayN ya ma da * 86400 + ra = a by omega)))
  have HF := Lib.hid hf
  have JB : Hid (¬ (okD y m d ∧ inB n)) := Lib.hid (fun c => hf c.2)
  have Q0 : Hid ((0 : Int) / 86400 = 0) := Lib.hid (by decide)
  have R0 : Hid ((0 : Int) % 86400 = 0) := Lib.hid (by decide)
  have O70 := Lib.hid ok_70.1
  have E70 := Lib.hid ok_70.2
  have HK := Lib.hid hk
  have k1 : 0 ≤ k ∧ k ≤ 2 := by omega
  have K12 := Lib.hid k1
  clear H hqa hra hk oa ea hf k1
  go_enter Tryd.func6, Tryd.ntmps6
  go_wp2_with (first
    | (go_at_call 13; ((with_reducible refine (Split_is a qa ra ya ma da _ HL0.out.ah a1 a2 HQA HRA HA.out HEA).mono ?_)); rintro e w1 ⟨rfl, kk⟩; simp only []
       have B1 := Lib.hid ((B0.out.next kk).more (.cells #[.int .i64 ya, .int .i64 ma, .int .i64 da] 23))
       have HL1 := Lib.hid ((HL0.out.next kk).next ((Below.refl _ _).alloc (Nat.le_refl _) (.cells #[.int .i64 ya, .int .i64 ma, .int .i64 da] 23)))
       have BB := Lib.hid (B0.out.next kk)
       clear kk B0 HL0
       have lt := BB.out.lt
       have d0 := BB.out.d0
       have d1 := BB.out.d1
       have d2 := BB.out.d2
       have c0 := BB.out.c0
       have c1 := BB.out.c1
       have lt0 : w.heap.size < w1.heap.size := by omega
       clear BB)
    | (go_at_call 9; ((with_reducible refine (Join_is ya ma da ra a _ HL1.out.ah JA).mono ?_)); rintro e w2 ⟨rfl, kk⟩; simp only []
       have B2 := Lib.hid (B1.out.next kk)
       have HL2 := Lib.hid (HL1.out.next kk)
       clear kk B1 HL1
       clear lt0 lt d0 d1 d2 c0 c1
       have lt := B2.out.lt
       have d0 := B2.out.d0
       have d1 := B2.out.d1
       have d2 := B2.out.d2
       have c0 := B2.out.c0
       have c1 := B2.out.c1
       have lt0 : w.heap.size < w2.heap.size := by omega)
    | (go_at_call 9; ((with_reducible refine (Join_not y m d n _ HL2.out.ah JB).mono ?_)); rintro e w3 ⟨rfl, kk⟩; simp only []
       have B3 := Lib.hid (B2.out.next kk)
       have HL3 := Lib.hid (HL2.out.next kk)
       clear kk B2 HL2
       clear lt0 lt d0 d1 d2 c0 c1
       have lt := B3.out.lt
       have d0 := B3.out.d0
       have d1 := B3.out.d1
       have d2 := B3.out.d2
       have c0 := B3.out.c0
       have c1 := B3.out.c1
       have lt0 : w.heap.size < w3.heap.size := by omega)
    | (go_at_call 13; ((with_reducible refine (Split_is 0 0 0 1970 1 1 _ HL3.out.ah (by omega) (by omega) Q0 R0 O70.out E70).mono ?_)); rintro e w4 ⟨rfl, kk⟩; simp only []
       have B4 := Lib.hid ((B3.out.next kk).more (.cells #[.int .i64 1970, .int .i64 1, .int .i64 1] 23))
       have HL4 := Lib.hid ((HL3.out.next kk).next ((Below.refl _ _).alloc (Nat.le_refl _) (.cells #[.int .i64 1970, .int .i64 1, .int .i64 1] 23)))
       have BB := Lib.hid (B3.out.next kk)
       clear kk B3 HL3
       clear lt0 lt d0 d1 d2 c0 c1
       have lt := BB.out.lt
       have d0 := BB.out.d0
       have d1 := BB.out.d1
       have d2 := BB.out.d2
       have c0 := BB.out.c0
       have c1 := BB.out.c1
       have lt0 : w.heap.size < w4.heap.size := by omega
       clear BB)
    | (go_at_call 17; ((with_reducible refine (text_far n _ HF.out).mono ?_)); rintro e w5 ⟨rfl, kk⟩; simp only []
       have B5 := Lib.hid (B4.out.next kk)
       have HL5 := Lib.hid (HL4.out.next kk)
       clear kk B4 HL4
       clear lt0 lt d0 d1 d2 c0 c1
       have lt := B5.out.lt
       have d0 := B5.out.d0
       have d1 := B5.out.d1
       have d2 := B5.out.d2
       have c0 := B5.out.c0
       have c1 := B5.out.c1
       have lt0 : w.heap.size < w5.heap.size := by omega)
    | (go_at_call 21; ((with_reducible refine (print_far n k _ HF.out K12.out).mono ?_)); rintro e w6 ⟨rfl, kk⟩; simp only []
       have B6 := Lib.hid (B5.out.next kk)
       have HL6 := Lib.hid (HL5.out.next kk)
       clear kk B5 HL5
       clear lt0 lt d0 d1 d2 c0 c1
       have lt := B6.out.lt
       have d0 := B6.out.d0
       have d1 := B6.out.d1
       have d2 := B6.out.d2
       have c0 := B6.out.c0
       have c1 := B6.out.c1
       have lt0 : w.heap.size < w6.heap.size := by omega)
    | (go_at_call 16; refine (awake_yes _ HL6.out).mono ?_; rintro e w99 ⟨rfl, k99⟩; simp only []
       have B99 := Lib.hid (B6.out.next k99)
       clear k99)
    )
  go_ret
  exact ⟨rfl, B99.out.bel⟩

set_option maxRecDepth 100000 in
set_option maxHeartbeats 3200000 in
theorem back_yes_nf_bad (a y m d n k qa ra : Int) (ya ma da : Int) (oa : okD ya ma da) (ea : dayN ya ma da = qa) (hf : ¬ inB n) (hk : k < 0 ∨ 2 < k)  (w : World) (H : Laid3 w) (a1 : -9223372036854775808 ≤ a) (a2 : a ≤ 9223372036854775807) (hqa : a / 86400 = qa) (hra : a % 86400 = ra) :
    Calls Tryd.prog 6 #[.int .i64 a, .agg #[.int .i64 y, .int .i64 m, .int .i64 d], .agg #[.int .i64 n, .int .i64 k]] w fun e w' => e = .returned (.bool true) ∧ Below w.heap.size w w' := by
  have HQA := Lib.hid hqa
  have HRA := Lib.hid hra
  have B0 := Lib.hid (BC.new w y m d n k 23 44)
  have HL0 := Lib.hid (H.next B0.out.bel)
  have HA := Lib.hid oa
  have HEA := Lib.hid ea
  have ra1 : 0 ≤ ra := by omega
  have ra2 : ra ≤ 86399 := by omega
  have JA := Lib.hid (And.intro oa (And.intro (show inB ra by unfold inB; omega) (show dayN ya ma da * 86400 + ra = a by omega)))
  have HF := Lib.hid hf
  have JB : Hid (¬ (okD y m d ∧ inB n)) := Lib.hid (fun c => hf c.2)
  have Q0 : Hid ((0 : Int) / 86400 = 0) := Lib.hid (by decide)
  have R0 : Hid ((0 : Int) % 86400 = 0) := Lib.hid (by decide)
  have O70 := Lib.hid ok_70.1
  have E70 := Lib.hid ok_70.2
  have HK := Lib.hid hk
  clear H hqa hra hk oa ea hf
  go_enter Tryd.func6, Tryd.ntmps6
  go_wp2_with (first
    | (go_at_call 13; ((with_reducible refine (Split_is a qa ra ya ma da _ HL0.out.ah a1 a2 HQA HRA HA.out HEA).mono ?_)); rintro e w1 ⟨rfl, kk⟩; simp only []
       have B1 := Lib.hid ((B0.out.next kk).more (.cells #[.int .i64 ya, .int .i64 ma, .int .i64 da] 23))
       have HL1 := Lib.hid ((HL0.out.next kk).next ((Below.refl _ _).alloc (Nat.le_refl _) (.cells #[.int .i64 ya, .int .i64 ma, .int .i64 da] 23)))
       have BB := Lib.hid (B0.out.next kk)
       clear kk B0 HL0
       have lt := BB.out.lt
       have d0 := BB.out.d0
       have d1 := BB.out.d1
       have d2 := BB.out.d2
       have c0 := BB.out.c0
       have c1 := BB.out.c1
       have lt0 : w.heap.size < w1.heap.size := by omega
       clear BB)
    | (go_at_call 9; ((with_reducible refine (Join_is ya ma da ra a _ HL1.out.ah JA).mono ?_)); rintro e w2 ⟨rfl, kk⟩; simp only []
       have B2 := Lib.hid (B1.out.next kk)
       have HL2 := Lib.hid (HL1.out.next kk)
       clear kk B1 HL1
       clear lt0 lt d0 d1 d2 c0 c1
       have lt := B2.out.lt
       have d0 := B2.out.d0
       have d1 := B2.out.d1
       have d2 := B2.out.d2
       have c0 := B2.out.c0
       have c1 := B2.out.c1
       have lt0 : w.heap.size < w2.heap.size := by omega)
    | (go_at_call 9; ((with_reducible refine (Join_not y m d n _ HL2.out.ah JB).mono ?_)); rintro e w3 ⟨rfl, kk⟩; simp only []
       have B3 := Lib.hid (B2.out.next kk)
       have HL3 := Lib.hid (HL2.out.next kk)
       clear kk B2 HL2
       clear lt0 lt d0 d1 d2 c0 c1
       have lt := B3.out.lt
       have d0 := B3.out.d0
       have d1 := B3.out.d1
       have d2 := B3.out.d2
       have c0 := B3.out.c0
       have c1 := B3.out.c1
       have lt0 : w.heap.size < w3.heap.size := by omega)
    | (go_at_call 13; ((with_reducible refine (Split_is 0 0 0 1970 1 1 _ HL3.out.ah (by omega) (by omega) Q0 R0 O70.out E70).mono ?_)); rintro e w4 ⟨rfl, kk⟩; simp only []
       have B4 := Lib.hid ((B3.out.next kk).more (.cells #[.int .i64 1970, .int .i64 1, .int .i64 1] 23))
       have HL4 := Lib.hid ((HL3.out.next kk).next ((Below.refl _ _).alloc (Nat.le_refl _) (.cells #[.int .i64 1970, .int .i64 1, .int .i64 1] 23)))
       have BB := Lib.hid (B3.out.next kk)
       clear kk B3 HL3
       clear lt0 lt d0 d1 d2 c0 c1
       have lt := BB.out.lt
       have d0 := BB.out.d0
       have d1 := BB.out.d1
       have d2 := BB.out.d2
       have c0 := BB.out.c0
       have c1 := BB.out.c1
       have lt0 : w.heap.size < w4.heap.size := by omega
       clear BB)
    | (go_at_call 17; ((with_reducible refine (text_far n _ HF.out).mono ?_)); rintro e w5 ⟨rfl, kk⟩; simp only []
       have B5 := Lib.hid (B4.out.next kk)
       have HL5 := Lib.hid (HL4.out.next kk)
       clear kk B4 HL4
       clear lt0 lt d0 d1 d2 c0 c1
       have lt := B5.out.lt
       have d0 := B5.out.d0
       have d1 := B5.out.d1
       have d2 := B5.out.d2
       have c0 := B5.out.c0
       have c1 := B5.out.c1
       have lt0 : w.heap.size < w5.heap.size := by omega)
    | (go_at_call 21; ((with_reducible refine (print_kind n k _ HK.out).mono ?_)); rintro e w6 ⟨rfl, kk⟩; simp only []
       have B6 := Lib.hid (B5.out.next kk)
       have HL6 := Lib.hid (HL5.out.next kk)
       clear kk B5 HL5
       clear lt0 lt d0 d1 d2 c0 c1
       have lt := B6.out.lt
       have d0 := B6.out.d0
       have d1 := B6.out.d1
       have d2 := B6.out.d2
       have c0 := B6.out.c0
       have c1 := B6.out.c1
       have lt0 : w.heap.size < w6.heap.size := by omega)
    | (go_at_call 16; refine (awake_yes _ HL6.out).mono ?_; rintro e w99 ⟨rfl, k99⟩; simp only []
       have B99 := Lib.hid (B6.out.next k99)
       clear k99)
    )
  go_ret
  exact ⟨rfl, B99.out.bel⟩

set_option maxRecDepth 100000 in
set_option maxHeartbeats 3200000 in
theorem back_yes_on_ok (a y m d n k qa ra : Int) (ya ma da : Int) (oa : okD ya ma da) (ea : dayN ya ma da = qa) (u q r : Int) (hd : okD y m d) (hf : inB n) (hu : dayN y m d * 86400 + n = u) (hq : u / 86400 = q) (hr : u % 86400 = r) (hn : q < -37243778 ∨ 35805087 < q) (hk : k = 0 ∨ k = 1 ∨ k = 2) (T S M : List UInt8) (hT : textL n = T) (hM : markL k = M) (hS : T ++ M = S) (w : World) (H : Laid3 w) (Hm : MarkAt w) (a1 : -9223372036854775808 ≤ a) (a2 : a ≤ 9223372036854775807) (hqa : a / 86400 = qa) (hra : a % 86400 = ra) :
    Calls Tryd.prog 6 #[.int .i64 a, .agg #[.int .i64 y, .int .i64 m, .int .i64 d], .agg #[.int .i64 n, .int .i64 k]] w fun e w' => e = .returned (.bool true) ∧ Below w.heap.size w w' := by
  have HMK := Lib.hid Hm
  have HQA := Lib.hid hqa
  have HRA := Lib.hid hra
  have B0 := Lib.hid (BC.new w y m d n k 23 44)
  have HL0 := Lib.hid (H.next B0.out.bel)
  have HA := Lib.hid oa
  have HEA := Lib.hid ea
  have ra1 : 0 ≤ ra := by omega
  have ra2 : ra ≤ 86399 := by omega
  have JA := Lib.hid (And.intro oa (And.intro (show inB ra by unfold inB; omega) (show dayN ya ma da * 86400 + ra = a by omega)))
  have HF := Lib.hid hf
  have dbd := day_bd hd
  have u1 : -9223372036854775808 ≤ u := by unfold inB at hf; omega
  have u2 : u ≤ 9223372036854775807 := by unfold inB at hf; omega
  have JB := Lib.hid (And.intro hd (And.intro hf hu))
  have HQ := Lib.hid hq
  have HR := Lib.hid hr
  have HN := Lib.hid hn
  have tsp := textL_span hf.1 hf.2
  rw [hT] at tsp
  have TSP := Lib.hid tsp
  have HT := Lib.hid hT
  have HM := Lib.hid hM
  have HS := Lib.hid hS
  have tl := time_len hf hT hM hS
  obtain ⟨tl1, tl2⟩ := tl
  have TP := Lib.hid (time_par hf hk hT (by rw [hM, hS]))
  have HK := Lib.hid hk
  clear H hqa hra hk oa ea hf hd hu hq hr dbd hn tsp hT hM hS Hm
  go_enter Tryd.func6, Tryd.ntmps6
  go_wp2_with (first
    | (go_at_call 13; ((with_reducible refine (Split_is a qa ra ya ma da _ HL0.out.ah a1 a2 HQA HRA HA.out HEA).mono ?_)); rintro e w1 ⟨rfl, kk⟩; simp only []
       have B1 := Lib.hid ((B0.out.next kk).more (.cells #[.int .i64 ya, .int .i64 ma, .int .i64 da] 23))
       have HL1 := Lib.hid ((HL0.out.next kk).next ((Below.refl _ _).alloc (Nat.le_refl _) (.cells #[.int .i64 ya, .int .i64 ma, .int .i64 da] 23)))
       have BB := Lib.hid (B0.out.next kk)
       clear kk B0 HL0
       have lt := BB.out.lt
       have d0 := BB.out.d0
       have d1 := BB.out.d1
       have d2 := BB.out.d2
       have c0 := BB.out.c0
       have c1 := BB.out.c1
       have lt0 : w.heap.size < w1.heap.size := by omega
       clear BB)
    | (go_at_call 9; ((with_reducible refine (Join_is ya ma da ra a _ HL1.out.ah JA).mono ?_)); rintro e w2 ⟨rfl, kk⟩; simp only []
       have B2 := Lib.hid (B1.out.next kk)
       have HL2 := Lib.hid (HL1.out.next kk)
       clear kk B1 HL1
       clear lt0 lt d0 d1 d2 c0 c1
       have lt := B2.out.lt
       have d0 := B2.out.d0
       have d1 := B2.out.d1
       have d2 := B2.out.d2
       have c0 := B2.out.c0
       have c1 := B2.out.c1
       have lt0 : w.heap.size < w2.heap.size := by omega)
    | (go_at_call 9; ((with_reducible refine (Join_is y m d n u _ HL2.out.ah JB).mono ?_)); rintro e w3 ⟨rfl, kk⟩; simp only []
       have B3 := Lib.hid (B2.out.next kk)
       have HL3 := Lib.hid (HL2.out.next kk)
       clear kk B2 HL2
       clear lt0 lt d0 d1 d2 c0 c1
       have lt := B3.out.lt
       have d0 := B3.out.d0
       have d1 := B3.out.d1
       have d2 := B3.out.d2
       have c0 := B3.out.c0
       have c1 := B3.out.c1
       have lt0 : w.heap.size < w3.heap.size := by omega)
    | (go_at_call 13; ((with_reducible refine (Split_no u q r _ u1 u2 HQ HR HN.out).mono ?_)); rintro e w4 ⟨rfl, kk⟩; simp only []
       have B4 := Lib.hid ((B3.out.next kk).more (.cells #[.int .i64 0, .int .i64 0, .int .i64 0] 23))
       have HL4 := Lib.hid ((HL3.out.next kk).next ((Below.refl _ _).alloc (Nat.le_refl _) (.cells #[.int .i64 0, .int .i64 0, .int .i64 0] 23)))
       have BB := Lib.hid (B3.out.next kk)
       clear kk B3 HL3
       clear lt0 lt d0 d1 d2 c0 c1
       have lt := BB.out.lt
       have d0 := BB.out.d0
       have d1 := BB.out.d1
       have d2 := BB.out.d2
       have c0 := BB.out.c0
       have c1 := BB.out.c1
       have lt0 : w.heap.size < w4.heap.size := by omega
       clear BB)
    | (go_at_call 17; ((with_reducible refine (text_is n T _ HL4.out.pow HF.out HT).mono ?_)); rintro e w5 ⟨rfl, kk⟩; simp only []
       have B5 := Lib.hid (B4.out.next kk)
       have HL5 := Lib.hid (HL4.out.next kk)
       clear kk B4 HL4
       clear lt0 lt d0 d1 d2 c0 c1
       have lt := B5.out.lt
       have d0 := B5.out.d0
       have d1 := B5.out.d1
       have d2 := B5.out.d2
       have c0 := B5.out.c0
       have c1 := B5.out.c1
       have lt0 : w.heap.size < w5.heap.size := by omega)
    | (go_at_call 19; ((with_reducible refine (span_is T n 0 _ tl1 HL5.out TSP).mono ?_)); rintro e w6 ⟨rfl, kk⟩; simp only []
       have B6 := Lib.hid (B5.out.next kk)
       have HL6 := Lib.hid (HL5.out.next kk)
       clear kk B5 HL5
       clear lt0 lt d0 d1 d2 c0 c1
       have lt := B6.out.lt
       have d0 := B6.out.d0
       have d1 := B6.out.d1
       have d2 := B6.out.d2
       have c0 := B6.out.c0
       have c1 := B6.out.c1
       have lt0 : w.heap.size < w6.heap.size := by omega)
    | (go_at_call 21; ((with_reducible refine (print_is n k T S M _ HF.out HK.out HL6.out.pow (HMK.out.next (B6.out.bel)) HT HM HS).mono ?_)); rintro e w7 ⟨rfl, kk⟩; simp only []
       have B7 := Lib.hid (B6.out.next kk)
       have HL7 := Lib.hid (HL6.out.next kk)
       clear kk B6 HL6
       clear lt0 lt d0 d1 d2 c0 c1
       have lt := B7.out.lt
       have d0 := B7.out.d0
       have d1 := B7.out.d1
       have d2 := B7.out.d2
       have c0 := B7.out.c0
       have c1 := B7.out.c1
       have lt0 : w.heap.size < w7.heap.size := by omega)
    | (go_at_call 22; ((with_reducible refine (parse_ok S n k _ tl2 HL7.out TP).mono ?_)); rintro e w8 ⟨rfl, kk⟩; simp only []
       have B8 := Lib.hid ((B7.out.next kk).more (.cells #[.int .i64 n, .int .i64 k] 44))
       have HL8 := Lib.hid ((HL7.out.next kk).next ((Below.refl _ _).alloc (Nat.le_refl _) (.cells #[.int .i64 n, .int .i64 k] 44)))
       have BB := Lib.hid (B7.out.next kk)
       clear kk B7 HL7
       clear lt0 lt d0 d1 d2 c0 c1
       have lt := BB.out.lt
       have d0 := BB.out.d0
       have d1 := BB.out.d1
       have d2 := BB.out.d2
       have c0 := BB.out.c0
       have c1 := BB.out.c1
       have lt0 : w.heap.size < w8.heap.size := by omega
       clear BB)
    | (go_at_call 16; refine (awake_yes _ HL8.out).mono ?_; rintro e w99 ⟨rfl, k99⟩; simp only []
       have B99 := Lib.hid (B8.out.next k99)
       clear k99)
    )
  go_ret
  exact ⟨rfl, B99.out.bel⟩

set_option maxRecDepth 100000 in
set_option maxHeartbeats 3200000 in
theorem back_yes_on_bad (a y m d n k qa ra : Int) (ya ma da : Int) (oa : okD ya ma da) (ea : dayN ya ma da = qa) (u q r : Int) (hd : okD y m d) (hf : inB n) (hu : dayN y m d * 86400 + n = u) (hq : u / 86400 = q) (hr : u % 86400 = r) (hn : q < -37243778 ∨ 35805087 < q) (hk : k < 0 ∨ 2 < k) (T S M : List UInt8) (hT : textL n = T) (hM : markL k = M) (hS : T ++ M = S) (w : World) (H : Laid3 w) (a1 : -9223372036854775808 ≤ a) (a2 : a ≤ 9223372036854775807) (hqa : a / 86400 = qa) (hra : a % 86400 = ra) :
    Calls Tryd.prog 6 #[.int .i64 a, .agg #[.int .i64 y, .int .i64 m, .int .i64 d], .agg #[.int .i64 n, .int .i64 k]] w fun e w' => e = .returned (.bool true) ∧ Below w.heap.size w w' := by
  have HQA := Lib.hid hqa
  have HRA := Lib.hid hra
  have B0 := Lib.hid (BC.new w y m d n k 23 44)
  have HL0 := Lib.hid (H.next B0.out.bel)
  have HA := Lib.hid oa
  have HEA := Lib.hid ea
  have ra1 : 0 ≤ ra := by omega
  have ra2 : ra ≤ 86399 := by omega
  have JA := Lib.hid (And.intro oa (And.intro (show inB ra by unfold inB; omega) (show dayN ya ma da * 86400 + ra = a by omega)))
  have HF := Lib.hid hf
  have dbd := day_bd hd
  have u1 : -9223372036854775808 ≤ u := by unfold inB at hf; omega
  have u2 : u ≤ 9223372036854775807 := by unfold inB at hf; omega
  have JB := Lib.hid (And.intro hd (And.intro hf hu))
  have HQ := Lib.hid hq
  have HR := Lib.hid hr
  have HN := Lib.hid hn
  have tsp := textL_span hf.1 hf.2
  rw [hT] at tsp
  have TSP := Lib.hid tsp
  have HT := Lib.hid hT
  have HM := Lib.hid hM
  have HS := Lib.hid hS
  have tl := time_len hf hT hM hS
  obtain ⟨tl1, tl2⟩ := tl
  have HK := Lib.hid hk
  clear H hqa hra hk oa ea hf hd hu hq hr dbd hn tsp hT hM hS
  go_enter Tryd.func6, Tryd.ntmps6
  go_wp2_with (first
    | (go_at_call 13; ((with_reducible refine (Split_is a qa ra ya ma da _ HL0.out.ah a1 a2 HQA HRA HA.out HEA).mono ?_)); rintro e w1 ⟨rfl, kk⟩; simp only []
       have B1 := Lib.hid ((B0.out.next kk).more (.cells #[.int .i64 ya, .int .i64 ma, .int .i64 da] 23))
       have HL1 := Lib.hid ((HL0.out.next kk).next ((Below.refl _ _).alloc (Nat.le_refl _) (.cells #[.int .i64 ya, .int .i64 ma, .int .i64 da] 23)))
       have BB := Lib.hid (B0.out.next kk)
       clear kk B0 HL0
       have lt := BB.out.lt
       have d0 := BB.out.d0
       have d1 := BB.out.d1
       have d2 := BB.out.d2
       have c0 := BB.out.c0
       have c1 := BB.out.c1
       have lt0 : w.heap.size < w1.heap.size := by omega
       clear BB)
    | (go_at_call 9; ((with_reducible refine (Join_is ya ma da ra a _ HL1.out.ah JA).mono ?_)); rintro e w2 ⟨rfl, kk⟩; simp only []
       have B2 := Lib.hid (B1.out.next kk)
       have HL2 := Lib.hid (HL1.out.next kk)
       clear kk B1 HL1
       clear lt0 lt d0 d1 d2 c0 c1
       have lt := B2.out.lt
       have d0 := B2.out.d0
       have d1 := B2.out.d1
       have d2 := B2.out.d2
       have c0 := B2.out.c0
       have c1 := B2.out.c1
       have lt0 : w.heap.size < w2.heap.size := by omega)
    | (go_at_call 9; ((with_reducible refine (Join_is y m d n u _ HL2.out.ah JB).mono ?_)); rintro e w3 ⟨rfl, kk⟩; simp only []
       have B3 := Lib.hid (B2.out.next kk)
       have HL3 := Lib.hid (HL2.out.next kk)
       clear kk B2 HL2
       clear lt0 lt d0 d1 d2 c0 c1
       have lt := B3.out.lt
       have d0 := B3.out.d0
       have d1 := B3.out.d1
       have d2 := B3.out.d2
       have c0 := B3.out.c0
       have c1 := B3.out.c1
       have lt0 : w.heap.size < w3.heap.size := by omega)
    | (go_at_call 13; ((with_reducible refine (Split_no u q r _ u1 u2 HQ HR HN.out).mono ?_)); rintro e w4 ⟨rfl, kk⟩; simp only []
       have B4 := Lib.hid ((B3.out.next kk).more (.cells #[.int .i64 0, .int .i64 0, .int .i64 0] 23))
       have HL4 := Lib.hid ((HL3.out.next kk).next ((Below.refl _ _).alloc (Nat.le_refl _) (.cells #[.int .i64 0, .int .i64 0, .int .i64 0] 23)))
       have BB := Lib.hid (B3.out.next kk)
       clear kk B3 HL3
       clear lt0 lt d0 d1 d2 c0 c1
       have lt := BB.out.lt
       have d0 := BB.out.d0
       have d1 := BB.out.d1
       have d2 := BB.out.d2
       have c0 := BB.out.c0
       have c1 := BB.out.c1
       have lt0 : w.heap.size < w4.heap.size := by omega
       clear BB)
    | (go_at_call 17; ((with_reducible refine (text_is n T _ HL4.out.pow HF.out HT).mono ?_)); rintro e w5 ⟨rfl, kk⟩; simp only []
       have B5 := Lib.hid (B4.out.next kk)
       have HL5 := Lib.hid (HL4.out.next kk)
       clear kk B4 HL4
       clear lt0 lt d0 d1 d2 c0 c1
       have lt := B5.out.lt
       have d0 := B5.out.d0
       have d1 := B5.out.d1
       have d2 := B5.out.d2
       have c0 := B5.out.c0
       have c1 := B5.out.c1
       have lt0 : w.heap.size < w5.heap.size := by omega)
    | (go_at_call 19; ((with_reducible refine (span_is T n 0 _ tl1 HL5.out TSP).mono ?_)); rintro e w6 ⟨rfl, kk⟩; simp only []
       have B6 := Lib.hid (B5.out.next kk)
       have HL6 := Lib.hid (HL5.out.next kk)
       clear kk B5 HL5
       clear lt0 lt d0 d1 d2 c0 c1
       have lt := B6.out.lt
       have d0 := B6.out.d0
       have d1 := B6.out.d1
       have d2 := B6.out.d2
       have c0 := B6.out.c0
       have c1 := B6.out.c1
       have lt0 : w.heap.size < w6.heap.size := by omega)
    | (go_at_call 21; ((with_reducible refine (print_kind n k _ HK.out).mono ?_)); rintro e w7 ⟨rfl, kk⟩; simp only []
       have B7 := Lib.hid (B6.out.next kk)
       have HL7 := Lib.hid (HL6.out.next kk)
       clear kk B6 HL6
       clear lt0 lt d0 d1 d2 c0 c1
       have lt := B7.out.lt
       have d0 := B7.out.d0
       have d1 := B7.out.d1
       have d2 := B7.out.d2
       have c0 := B7.out.c0
       have c1 := B7.out.c1
       have lt0 : w.heap.size < w7.heap.size := by omega)
    | (go_at_call 16; refine (awake_yes _ HL7.out).mono ?_; rintro e w99 ⟨rfl, k99⟩; simp only []
       have B99 := Lib.hid (B7.out.next k99)
       clear k99)
    )
  go_ret
  exact ⟨rfl, B99.out.bel⟩

set_option maxRecDepth 100000 in
set_option maxHeartbeats 3200000 in
theorem back_yes_oy_ok (a y m d n k qa ra : Int) (ya ma da : Int) (oa : okD ya ma da) (ea : dayN ya ma da = qa) (u q r yb mb db : Int) (hd : okD y m d) (hf : inB n) (hu : dayN y m d * 86400 + n = u) (hq : u / 86400 = q) (hr : u % 86400 = r) (ob : okD yb mb db) (eb : dayN yb mb db = q) (hk : k = 0 ∨ k = 1 ∨ k = 2) (T S M : List UInt8) (hT : textL n = T) (hM : markL k = M) (hS : T ++ M = S) (w : World) (H : Laid3 w) (Hm : MarkAt w) (a1 : -9223372036854775808 ≤ a) (a2 : a ≤ 9223372036854775807) (hqa : a / 86400 = qa) (hra : a % 86400 = ra) :
    Calls Tryd.prog 6 #[.int .i64 a, .agg #[.int .i64 y, .int .i64 m, .int .i64 d], .agg #[.int .i64 n, .int .i64 k]] w fun e w' => e = .returned (.bool true) ∧ Below w.heap.size w w' := by
  have HMK := Lib.hid Hm
  have HQA := Lib.hid hqa
  have HRA := Lib.hid hra
  have B0 := Lib.hid (BC.new w y m d n k 23 44)
  have HL0 := Lib.hid (H.next B0.out.bel)
  have HA := Lib.hid oa
  have HEA := Lib.hid ea
  have ra1 : 0 ≤ ra := by omega
  have ra2 : ra ≤ 86399 := by omega
  have JA := Lib.hid (And.intro oa (And.intro (show inB ra by unfold inB; omega) (show dayN ya ma da * 86400 + ra = a by omega)))
  have HF := Lib.hid hf
  have dbd := day_bd hd
  have u1 : -9223372036854775808 ≤ u := by unfold inB at hf; omega
  have u2 : u ≤ 9223372036854775807 := by unfold inB at hf; omega
  have JB := Lib.hid (And.intro hd (And.intro hf hu))
  have HQ := Lib.hid hq
  have HR := Lib.hid hr
  have HOB := Lib.hid ob
  have HEB := Lib.hid eb
  obtain ⟨v1, hv1⟩ : ∃ v1, dayN yb mb db * 86400 + 0 = v1 := ⟨_, rfl⟩
  obtain ⟨v2, hv2⟩ : ∃ v2, dayN y m d * 86400 + 0 = v2 := ⟨_, rfl⟩
  have J1 := Lib.hid (And.intro ob (And.intro (show inB 0 by unfold inB; omega) hv1))
  have J2 := Lib.hid (And.intro hd (And.intro (show inB 0 by unfold inB; omega) hv2))
  have bbd := day_bd ob
  have r1 : -1300000 < n - r := by unfold inB at hf; omega
  have r2 : n - r < 1300000 := by unfold inB at hf; omega
  have e1 : v1 - v2 = n - r := by omega
  have e2 : (n - r).tmod 86400 = 0 := Int.tmod_eq_zero_of_dvd ⟨q - dayN y m d, by omega⟩
  have r3 : -9223372036854775808 ≤ v1 - v2 := by omega
  have r4 : v1 - v2 ≤ 9223372036854775807 := by omega
  have tsp := textL_span hf.1 hf.2
  rw [hT] at tsp
  have TSP := Lib.hid tsp
  have HT := Lib.hid hT
  have HM := Lib.hid hM
  have HS := Lib.hid hS
  have tl := time_len hf hT hM hS
  obtain ⟨tl1, tl2⟩ := tl
  have TP := Lib.hid (time_par hf hk hT (by rw [hM, hS]))
  have HK := Lib.hid hk
  clear H hqa hra hk oa ea hf hd hu hq hr dbd ob eb hv1 hv2 bbd tsp hT hM hS Hm
  go_enter Tryd.func6, Tryd.ntmps6
  go_wp2_with (first
    | (go_at_call 13; ((with_reducible refine (Split_is a qa ra ya ma da _ HL0.out.ah a1 a2 HQA HRA HA.out HEA).mono ?_)); rintro e w1 ⟨rfl, kk⟩; simp only []
       have B1 := Lib.hid ((B0.out.next kk).more (.cells #[.int .i64 ya, .int .i64 ma, .int .i64 da] 23))
       have HL1 := Lib.hid ((HL0.out.next kk).next ((Below.refl _ _).alloc (Nat.le_refl _) (.cells #[.int .i64 ya, .int .i64 ma, .int .i64 da] 23)))
       have BB := Lib.hid (B0.out.next kk)
       clear kk B0 HL0
       have lt := BB.out.lt
       have d0 := BB.out.d0
       have d1 := BB.out.d1
       have d2 := BB.out.d2
       have c0 := BB.out.c0
       have c1 := BB.out.c1
       have lt0 : w.heap.size < w1.heap.size := by omega
       clear BB)
    | (go_at_call 9; ((with_reducible refine (Join_is ya ma da ra a _ HL1.out.ah JA).mono ?_)); rintro e w2 ⟨rfl, kk⟩; simp only []
       have B2 := Lib.hid (B1.out.next kk)
       have HL2 := Lib.hid (HL1.out.next kk)
       clear kk B1 HL1
       clear lt0 lt d0 d1 d2 c0 c1
       have lt := B2.out.lt
       have d0 := B2.out.d0
       have d1 := B2.out.d1
       have d2 := B2.out.d2
       have c0 := B2.out.c0
       have c1 := B2.out.c1
       have lt0 : w.heap.size < w2.heap.size := by omega)
    | (go_at_call 9; ((with_reducible refine (Join_is y m d n u _ HL2.out.ah JB).mono ?_)); rintro e w3 ⟨rfl, kk⟩; simp only []
       have B3 := Lib.hid (B2.out.next kk)
       have HL3 := Lib.hid (HL2.out.next kk)
       clear kk B2 HL2
       clear lt0 lt d0 d1 d2 c0 c1
       have lt := B3.out.lt
       have d0 := B3.out.d0
       have d1 := B3.out.d1
       have d2 := B3.out.d2
       have c0 := B3.out.c0
       have c1 := B3.out.c1
       have lt0 : w.heap.size < w3.heap.size := by omega)
    | (go_at_call 13; ((with_reducible refine (Split_is u q r yb mb db _ HL3.out.ah u1 u2 HQ HR HOB.out HEB).mono ?_)); rintro e w4 ⟨rfl, kk⟩; simp only []
       have B4 := Lib.hid ((B3.out.next kk).more (.cells #[.int .i64 yb, .int .i64 mb, .int .i64 db] 23))
       have HL4 := Lib.hid ((HL3.out.next kk).next ((Below.refl _ _).alloc (Nat.le_refl _) (.cells #[.int .i64 yb, .int .i64 mb, .int .i64 db] 23)))
       have BB := Lib.hid (B3.out.next kk)
       clear kk B3 HL3
       clear lt0 lt d0 d1 d2 c0 c1
       have lt := BB.out.lt
       have d0 := BB.out.d0
       have d1 := BB.out.d1
       have d2 := BB.out.d2
       have c0 := BB.out.c0
       have c1 := BB.out.c1
       have lt0 : w.heap.size < w4.heap.size := by omega
       clear BB)
    | (go_at_call 9; ((with_reducible refine (Join_is yb mb db 0 v1 _ HL4.out.ah J1).mono ?_)); rintro e w5 ⟨rfl, kk⟩; simp only []
       have B5 := Lib.hid (B4.out.next kk)
       have HL5 := Lib.hid (HL4.out.next kk)
       clear kk B4 HL4
       clear lt0 lt d0 d1 d2 c0 c1
       have lt := B5.out.lt
       have d0 := B5.out.d0
       have d1 := B5.out.d1
       have d2 := B5.out.d2
       have c0 := B5.out.c0
       have c1 := B5.out.c1
       have lt0 : w.heap.size < w5.heap.size := by omega)
    | (go_at_call 9; ((with_reducible refine (Join_is y m d 0 v2 _ HL5.out.ah J2).mono ?_)); rintro e w6 ⟨rfl, kk⟩; simp only []
       have B6 := Lib.hid (B5.out.next kk)
       have HL6 := Lib.hid (HL5.out.next kk)
       clear kk B5 HL5
       clear lt0 lt d0 d1 d2 c0 c1
       have lt := B6.out.lt
       have d0 := B6.out.d0
       have d1 := B6.out.d1
       have d2 := B6.out.d2
       have c0 := B6.out.c0
       have c1 := B6.out.c1
       have lt0 : w.heap.size < w6.heap.size := by omega)
    | (go_at_call 17; ((with_reducible refine (text_is n T _ HL6.out.pow HF.out HT).mono ?_)); rintro e w7 ⟨rfl, kk⟩; simp only []
       have B7 := Lib.hid (B6.out.next kk)
       have HL7 := Lib.hid (HL6.out.next kk)
       clear kk B6 HL6
       clear lt0 lt d0 d1 d2 c0 c1
       have lt := B7.out.lt
       have d0 := B7.out.d0
       have d1 := B7.out.d1
       have d2 := B7.out.d2
       have c0 := B7.out.c0
       have c1 := B7.out.c1
       have lt0 : w.heap.size < w7.heap.size := by omega)
    | (go_at_call 19; ((with_reducible refine (span_is T n 0 _ tl1 HL7.out TSP).mono ?_)); rintro e w8 ⟨rfl, kk⟩; simp only []
       have B8 := Lib.hid (B7.out.next kk)
       have HL8 := Lib.hid (HL7.out.next kk)
       clear kk B7 HL7
       clear lt0 lt d0 d1 d2 c0 c1
       have lt := B8.out.lt
       have d0 := B8.out.d0
       have d1 := B8.out.d1
       have d2 := B8.out.d2
       have c0 := B8.out.c0
       have c1 := B8.out.c1
       have lt0 : w.heap.size < w8.heap.size := by omega)
    | (go_at_call 21; ((with_reducible refine (print_is n k T S M _ HF.out HK.out HL8.out.pow (HMK.out.next (B8.out.bel)) HT HM HS).mono ?_)); rintro e w9 ⟨rfl, kk⟩; simp only []
       have B9 := Lib.hid (B8.out.next kk)
       have HL9 := Lib.hid (HL8.out.next kk)
       clear kk B8 HL8
       clear lt0 lt d0 d1 d2 c0 c1
       have lt := B9.out.lt
       have d0 := B9.out.d0
       have d1 := B9.out.d1
       have d2 := B9.out.d2
       have c0 := B9.out.c0
       have c1 := B9.out.c1
       have lt0 : w.heap.size < w9.heap.size := by omega)
    | (go_at_call 22; ((with_reducible refine (parse_ok S n k _ tl2 HL9.out TP).mono ?_)); rintro e w10 ⟨rfl, kk⟩; simp only []
       have B10 := Lib.hid ((B9.out.next kk).more (.cells #[.int .i64 n, .int .i64 k] 44))
       have HL10 := Lib.hid ((HL9.out.next kk).next ((Below.refl _ _).alloc (Nat.le_refl _) (.cells #[.int .i64 n, .int .i64 k] 44)))
       have BB := Lib.hid (B9.out.next kk)
       clear kk B9 HL9
       clear lt0 lt d0 d1 d2 c0 c1
       have lt := BB.out.lt
       have d0 := BB.out.d0
       have d1 := BB.out.d1
       have d2 := BB.out.d2
       have c0 := BB.out.c0
       have c1 := BB.out.c1
       have lt0 : w.heap.size < w10.heap.size := by omega
       clear BB)
    | (go_at_call 16; refine (awake_yes _ HL10.out).mono ?_; rintro e w99 ⟨rfl, k99⟩; simp only []
       have B99 := Lib.hid (B10.out.next k99)
       clear k99)
    )
  go_ret
  exact ⟨rfl, B99.out.bel⟩

set_option maxRecDepth 100000 in
set_option maxHeartbeats 3200000 in
theorem back_yes_oy_bad (a y m d n k qa ra : Int) (ya ma da : Int) (oa : okD ya ma da) (ea : dayN ya ma da = qa) (u q r yb mb db : Int) (hd : okD y m d) (hf : inB n) (hu : dayN y m d * 86400 + n = u) (hq : u / 86400 = q) (hr : u % 86400 = r) (ob : okD yb mb db) (eb : dayN yb mb db = q) (hk : k < 0 ∨ 2 < k) (T S M : List UInt8) (hT : textL n = T) (hM : markL k = M) (hS : T ++ M = S) (w : World) (H : Laid3 w) (a1 : -9223372036854775808 ≤ a) (a2 : a ≤ 9223372036854775807) (hqa : a / 86400 = qa) (hra : a % 86400 = ra) :
    Calls Tryd.prog 6 #[.int .i64 a, .agg #[.int .i64 y, .int .i64 m, .int .i64 d], .agg #[.int .i64 n, .int .i64 k]] w fun e w' => e = .returned (.bool true) ∧ Below w.heap.size w w' := by
  have HQA := Lib.hid hqa
  have HRA := Lib.hid hra
  have B0 := Lib.hid (BC.new w y m d n k 23 44)
  have HL0 := Lib.hid (H.next B0.out.bel)
  have HA := Lib.hid oa
  have HEA := Lib.hid ea
  have ra1 : 0 ≤ ra := by omega
  have ra2 : ra ≤ 86399 := by omega
  have JA := Lib.hid (And.intro oa (And.intro (show inB ra by unfold inB; omega) (show dayN ya ma da * 86400 + ra = a by omega)))
  have HF := Lib.hid hf
  have dbd := day_bd hd
  have u1 : -9223372036854775808 ≤ u := by unfold inB at hf; omega
  have u2 : u ≤ 9223372036854775807 := by unfold inB at hf; omega
  have JB := Lib.hid (And.intro hd (And.intro hf hu))
  have HQ := Lib.hid hq
  have HR := Lib.hid hr
  have HOB := Lib.hid ob
  have HEB := Lib.hid eb
  obtain ⟨v1, hv1⟩ : ∃ v1, dayN yb mb db * 86400 + 0 = v1 := ⟨_, rfl⟩
  obtain ⟨v2, hv2⟩ : ∃ v2, dayN y m d * 86400 + 0 = v2 := ⟨_, rfl⟩
  have J1 := Lib.hid (And.intro ob (And.intro (show inB 0 by unfold inB; omega) hv1))
  have J2 := Lib.hid (And.intro hd (And.intro (show inB 0 by unfold inB; omega) hv2))
  have bbd := day_bd ob
  have r1 : -1300000 < n - r := by unfold inB at hf; omega
  have r2 : n - r < 1300000 := by unfold inB at hf; omega
  have e1 : v1 - v2 = n - r := by omega
  have e2 : (n - r).tmod 86400 = 0 := Int.tmod_eq_zero_of_dvd ⟨q - dayN y m d, by omega⟩
  have r3 : -9223372036854775808 ≤ v1 - v2 := by omega
  have r4 : v1 - v2 ≤ 9223372036854775807 := by omega
  have tsp := textL_span hf.1 hf.2
  rw [hT] at tsp
  have TSP := Lib.hid tsp
  have HT := Lib.hid hT
  have HM := Lib.hid hM
  have HS := Lib.hid hS
  have tl := time_len hf hT hM hS
  obtain ⟨tl1, tl2⟩ := tl
  have HK := Lib.hid hk
  clear H hqa hra hk oa ea hf hd hu hq hr dbd ob eb hv1 hv2 bbd tsp hT hM hS
  go_enter Tryd.func6, Tryd.ntmps6
  go_wp2_with (first
    | (go_at_call 13; ((with_reducible refine (Split_is a qa ra ya ma da _ HL0.out.ah a1 a2 HQA HRA HA.out HEA).mono ?_)); rintro e w1 ⟨rfl, kk⟩; simp only []
       have B1 := Lib.hid ((B0.out.next kk).more (.cells #[.int .i64 ya, .int .i64 ma, .int .i64 da] 23))
       have HL1 := Lib.hid ((HL0.out.next kk).next ((Below.refl _ _).alloc (Nat.le_refl _) (.cells #[.int .i64 ya, .int .i64 ma, .int .i64 da] 23)))
       have BB := Lib.hid (B0.out.next kk)
       clear kk B0 HL0
       have lt := BB.out.lt
       have d0 := BB.out.d0
       have d1 := BB.out.d1
       have d2 := BB.out.d2
       have c0 := BB.out.c0
       have c1 := BB.out.c1
       have lt0 : w.heap.size < w1.heap.size := by omega
       clear BB)
    | (go_at_call 9; ((with_reducible refine (Join_is ya ma da ra a _ HL1.out.ah JA).mono ?_)); rintro e w2 ⟨rfl, kk⟩; simp only []
       have B2 := Lib.hid (B1.out.next kk)
       have HL2 := Lib.hid (HL1.out.next kk)
       clear kk B1 HL1
       clear lt0 lt d0 d1 d2 c0 c1
       have lt := B2.out.lt
       have d0 := B2.out.d0
       have d1 := B2.out.d1
       have d2 := B2.out.d2
       have c0 := B2.out.c0
       have c1 := B2.out.c1
       have lt0 : w.heap.size < w2.heap.size := by omega)
    | (go_at_call 9; ((with_reducible refine (Join_is y m d n u _ HL2.out.ah JB).mono ?_)); rintro e w3 ⟨rfl, kk⟩; simp only []
       have B3 := Lib.hid (B2.out.next kk)
       have HL3 := Lib.hid (HL2.out.next kk)
       clear kk B2 HL2
       clear lt0 lt d0 d1 d2 c0 c1
       have lt := B3.out.lt
       have d0 := B3.out.d0
       have d1 := B3.out.d1
       have d2 := B3.out.d2
       have c0 := B3.out.c0
       have c1 := B3.out.c1
       have lt0 : w.heap.size < w3.heap.size := by omega)
    | (go_at_call 13; ((with_reducible refine (Split_is u q r yb mb db _ HL3.out.ah u1 u2 HQ HR HOB.out HEB).mono ?_)); rintro e w4 ⟨rfl, kk⟩; simp only []
       have B4 := Lib.hid ((B3.out.next kk).more (.cells #[.int .i64 yb, .int .i64 mb, .int .i64 db] 23))
       have HL4 := Lib.hid ((HL3.out.next kk).next ((Below.refl _ _).alloc (Nat.le_refl _) (.cells #[.int .i64 yb, .int .i64 mb, .int .i64 db] 23)))
       have BB := Lib.hid (B3.out.next kk)
       clear kk B3 HL3
       clear lt0 lt d0 d1 d2 c0 c1
       have lt := BB.out.lt
       have d0 := BB.out.d0
       have d1 := BB.out.d1
       have d2 := BB.out.d2
       have c0 := BB.out.c0
       have c1 := BB.out.c1
       have lt0 : w.heap.size < w4.heap.size := by omega
       clear BB)
    | (go_at_call 9; ((with_reducible refine (Join_is yb mb db 0 v1 _ HL4.out.ah J1).mono ?_)); rintro e w5 ⟨rfl, kk⟩; simp only []
       have B5 := Lib.hid (B4.out.next kk)
       have HL5 := Lib.hid (HL4.out.next kk)
       clear kk B4 HL4
       clear lt0 lt d0 d1 d2 c0 c1
       have lt := B5.out.lt
       have d0 := B5.out.d0
       have d1 := B5.out.d1
       have d2 := B5.out.d2
       have c0 := B5.out.c0
       have c1 := B5.out.c1
       have lt0 : w.heap.size < w5.heap.size := by omega)
    | (go_at_call 9; ((with_reducible refine (Join_is y m d 0 v2 _ HL5.out.ah J2).mono ?_)); rintro e w6 ⟨rfl, kk⟩; simp only []
       have B6 := Lib.hid (B5.out.next kk)
       have HL6 := Lib.hid (HL5.out.next kk)
       clear kk B5 HL5
       clear lt0 lt d0 d1 d2 c0 c1
       have lt := B6.out.lt
       have d0 := B6.out.d0
       have d1 := B6.out.d1
       have d2 := B6.out.d2
       have c0 := B6.out.c0
       have c1 := B6.out.c1
       have lt0 : w.heap.size < w6.heap.size := by omega)
    | (go_at_call 17; ((with_reducible refine (text_is n T _ HL6.out.pow HF.out HT).mono ?_)); rintro e w7 ⟨rfl, kk⟩; simp only []
       have B7 := Lib.hid (B6.out.next kk)
       have HL7 := Lib.hid (HL6.out.next kk)
       clear kk B6 HL6
       clear lt0 lt d0 d1 d2 c0 c1
       have lt := B7.out.lt
       have d0 := B7.out.d0
       have d1 := B7.out.d1
       have d2 := B7.out.d2
       have c0 := B7.out.c0
       have c1 := B7.out.c1
       have lt0 : w.heap.size < w7.heap.size := by omega)
    | (go_at_call 19; ((with_reducible refine (span_is T n 0 _ tl1 HL7.out TSP).mono ?_)); rintro e w8 ⟨rfl, kk⟩; simp only []
       have B8 := Lib.hid (B7.out.next kk)
       have HL8 := Lib.hid (HL7.out.next kk)
       clear kk B7 HL7
       clear lt0 lt d0 d1 d2 c0 c1
       have lt := B8.out.lt
       have d0 := B8.out.d0
       have d1 := B8.out.d1
       have d2 := B8.out.d2
       have c0 := B8.out.c0
       have c1 := B8.out.c1
       have lt0 : w.heap.size < w8.heap.size := by omega)
    | (go_at_call 21; ((with_reducible refine (print_kind n k _ HK.out).mono ?_)); rintro e w9 ⟨rfl, kk⟩; simp only []
       have B9 := Lib.hid (B8.out.next kk)
       have HL9 := Lib.hid (HL8.out.next kk)
       clear kk B8 HL8
       clear lt0 lt d0 d1 d2 c0 c1
       have lt := B9.out.lt
       have d0 := B9.out.d0
       have d1 := B9.out.d1
       have d2 := B9.out.d2
       have c0 := B9.out.c0
       have c1 := B9.out.c1
       have lt0 : w.heap.size < w9.heap.size := by omega)
    | (go_at_call 16; refine (awake_yes _ HL9.out).mono ?_; rintro e w99 ⟨rfl, k99⟩; simp only []
       have B99 := Lib.hid (B9.out.next k99)
       clear k99)
    )
  go_ret
  exact ⟨rfl, B99.out.bel⟩

theorem clockBack_walk (a y m d n k : Int) (w : World) (H : Laid4 w) (a1 : -9223372036854775808 ≤ a) (a2 : a ≤ 9223372036854775807) (_ : -9223372036854775808 ≤ y) (_ : y ≤ 9223372036854775807) (_ : -9223372036854775808 ≤ m) (_ : m ≤ 9223372036854775807) (_ : -9223372036854775808 ≤ d) (_ : d ≤ 9223372036854775807) (_ : -9223372036854775808 ≤ n) (_ : n ≤ 9223372036854775807) (_ : -9223372036854775808 ≤ k) (_ : k ≤ 9223372036854775807) :
    Calls Tryd.prog 6 #[.int .i64 a, .agg #[.int .i64 y, .int .i64 m, .int .i64 d], .agg #[.int .i64 n, .int .i64 k]] w fun e w' => e = .returned (.bool true) ∧ Below w.heap.size w w' := by
  by_cases ha : a / 86400 < -37243778 ∨ 35805087 < a / 86400
  · by_cases hk : k = 0 ∨ k = 1 ∨ k = 2
    · by_cases hf : inB n
      · by_cases hd : okD y m d
        · by_cases hn : (dayN y m d * 86400 + n) / 86400 < -37243778 ∨ 35805087 < (dayN y m d * 86400 + n) / 86400
          · exact back_no_on_ok a y m d n k _ _ ha _ _ _ hd hf rfl rfl rfl hn hk _ _ _ rfl rfl rfl w H.l3 H.mark a1 a2 rfl rfl
          · obtain ⟨yb, mb, db, ob, eb⟩ := date_ex _ (Int.not_lt.1 fun c => hn (.inl c)) (Int.not_lt.1 fun c => hn (.inr c))
            exact back_no_oy_ok a y m d n k _ _ ha _ _ _ yb mb db hd hf rfl rfl rfl ob eb hk _ _ _ rfl rfl rfl w H.l3 H.mark a1 a2 rfl rfl
        · exact back_no_nd_ok a y m d n k _ _ ha hd hf hk _ _ _ rfl rfl rfl w H.l3 H.mark a1 a2 rfl rfl
      · exact back_no_nf_ok a y m d n k _ _ ha hf hk w H.l3 a1 a2 rfl rfl
    · have hk' : k < 0 ∨ 2 < k := by omega
      by_cases hf : inB n
      · by_cases hd : okD y m d
        · by_cases hn : (dayN y m d * 86400 + n) / 86400 < -37243778 ∨ 35805087 < (dayN y m d * 86400 + n) / 86400
          · exact back_no_on_bad a y m d n k _ _ ha _ _ _ hd hf rfl rfl rfl hn hk' _ _ _ rfl rfl rfl w H.l3 a1 a2 rfl rfl
          · obtain ⟨yb, mb, db, ob, eb⟩ := date_ex _ (Int.not_lt.1 fun c => hn (.inl c)) (Int.not_lt.1 fun c => hn (.inr c))
            exact back_no_oy_bad a y m d n k _ _ ha _ _ _ yb mb db hd hf rfl rfl rfl ob eb hk' _ _ _ rfl rfl rfl w H.l3 a1 a2 rfl rfl
        · exact back_no_nd_bad a y m d n k _ _ ha hd hf hk' _ _ _ rfl rfl rfl w H.l3 a1 a2 rfl rfl
      · exact back_no_nf_bad a y m d n k _ _ ha hf hk' w H.l3 a1 a2 rfl rfl
  · obtain ⟨ya, ma, da, oa, ea⟩ := date_ex (a / 86400) (by omega) (by omega)
    by_cases hk : k = 0 ∨ k = 1 ∨ k = 2
    · by_cases hf : inB n
      · by_cases hd : okD y m d
        · by_cases hn : (dayN y m d * 86400 + n) / 86400 < -37243778 ∨ 35805087 < (dayN y m d * 86400 + n) / 86400
          · exact back_yes_on_ok a y m d n k _ _ ya ma da oa ea _ _ _ hd hf rfl rfl rfl hn hk _ _ _ rfl rfl rfl w H.l3 H.mark a1 a2 rfl rfl
          · obtain ⟨yb, mb, db, ob, eb⟩ := date_ex _ (Int.not_lt.1 fun c => hn (.inl c)) (Int.not_lt.1 fun c => hn (.inr c))
            exact back_yes_oy_ok a y m d n k _ _ ya ma da oa ea _ _ _ yb mb db hd hf rfl rfl rfl ob eb hk _ _ _ rfl rfl rfl w H.l3 H.mark a1 a2 rfl rfl
        · exact back_yes_nd_ok a y m d n k _ _ ya ma da oa ea hd hf hk _ _ _ rfl rfl rfl w H.l3 H.mark a1 a2 rfl rfl
      · exact back_yes_nf_ok a y m d n k _ _ ya ma da oa ea hf hk w H.l3 a1 a2 rfl rfl
    · have hk' : k < 0 ∨ 2 < k := by omega
      by_cases hf : inB n
      · by_cases hd : okD y m d
        · by_cases hn : (dayN y m d * 86400 + n) / 86400 < -37243778 ∨ 35805087 < (dayN y m d * 86400 + n) / 86400
          · exact back_yes_on_bad a y m d n k _ _ ya ma da oa ea _ _ _ hd hf rfl rfl rfl hn hk' _ _ _ rfl rfl rfl w H.l3 a1 a2 rfl rfl
          · obtain ⟨yb, mb, db, ob, eb⟩ := date_ex _ (Int.not_lt.1 fun c => hn (.inl c)) (Int.not_lt.1 fun c => hn (.inr c))
            exact back_yes_oy_bad a y m d n k _ _ ya ma da oa ea _ _ _ yb mb db hd hf rfl rfl rfl ob eb hk' _ _ _ rfl rfl rfl w H.l3 a1 a2 rfl rfl
        · exact back_yes_nd_bad a y m d n k _ _ ya ma da oa ea hd hf hk' _ _ _ rfl rfl rfl w H.l3 a1 a2 rfl rfl
      · exact back_yes_nf_bad a y m d n k _ _ ya ma da oa ea hf hk' w H.l3 a1 a2 rfl rfl
end Go.Proofs.YtjafbopmedbhcaaDoor

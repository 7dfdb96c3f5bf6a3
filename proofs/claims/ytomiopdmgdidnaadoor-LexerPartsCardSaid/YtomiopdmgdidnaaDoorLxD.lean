/- The contracts of lexer.cut and fromWord: the word with which a text begins, and a line from its next word on; nothing that was in memory changes. -/
import Derived.Laws.BytesArg
import Derived.Test.YtomiopdmgdidnaaDoorLxC
namespace Go.Proofs.YtomiopdmgdidnaaDoor
open Go.RowKit Go.Shelf
attribute [local go_sem] Oper.semAt_some

theorem bytes_text {w : World} {base n c : Nat} {A : Option Addr} {l : List UInt8} (hn : l.length = n) (h : w.ownsRow base 5 1 (.slice A n c) n (ycl l)) : (convert 46 9 (.slice A n c)).run Tryd.prog w = .ok (.string ⟨l.toArray⟩) w := by
  subst hn
  rcases h.2 with ⟨h1, h2⟩ | ⟨g, cap, cur, h1, _⟩
  · injection h1 with e1 e2 e3
    subst e1
    have : l = [] := List.length_eq_zero_iff.1 h2
    subst this
    exact run_convert_bytes_nil (P := Tryd.prog) _ 46 5 Tryd.underlying46 Tryd.underlying5 _ _ _ Tryd.underlying9
  · injection h1 with e1 e2 e3
    subst e1
    refine run_convert_bytes_back w _ _ 5 _ c l Tryd.underlying46 Tryd.underlying5 Tryd.underlying9 fun j hj => ?_
    obtain ⟨g', e, _, _, _, _, hc⟩ := lxown_cells h (by omega)
    obtain rfl : g = g' := by injection e with e; injection e
    rw [Go.WideShapes.add_plain, Nat.zero_add]
    exact hc j _ (by simp [ycl, hj])
theorem bytes_text' {w W : World} {base n c : Nat} {A : Option Addr} {l : List UInt8} (hn : l.length = n) (h : w.ownsRow base 5 1 (.slice A n c) n (ycl l)) (k : Below w.heap.size w W) : (convert 46 9 (.slice A n c)).run Tryd.prog W = .ok (.string ⟨l.toArray⟩) W := bytes_text hn (lxown_keep h k)

/-- What is left to do, with what is done: the word so far, and whether it is in quotes. -/
def cutR (a : List UInt8) (q : Bool) (l : List UInt8) : List UInt8 × List UInt8 × Bool := (a ++ (cutQ l q).1, (cutQ l q).2)
theorem cutR_end (a : List UInt8) (q : Bool) : cutR a q [] = (a, [], !q) := by simp [cutR, cutQ]
theorem cutR_34 {c : UInt8} (a : List UInt8) (q : Bool) (l : List UInt8) (h : (c == 34) = true) : cutR a q (c :: l) = cutR a (!q) l := by
  unfold cutR
  rw [show cutQ (c :: l) q = cutQ l (!q) from by rw [cutQ, if_pos h]]
theorem cutR_stop {c : UInt8} (a : List UInt8) (l : List UInt8) (h : (c == 34) = false) (he : endB c = true) : cutR a false (c :: l) = (a, c :: l, true) := by
  unfold cutR
  rw [show cutQ (c :: l) false = ([], c :: l, true) from by rw [cutQ, if_neg (by rw [h]; decide), if_pos (by rw [he]; rfl)], List.append_nil]
theorem cutR_more {c : UInt8} (a : List UInt8) (q : Bool) (l : List UInt8) (h : (c == 34) = false) (he : (!q && endB c) = false) : cutR a q (c :: l) = cutR (a ++ [c]) q l := by
  unfold cutR
  rw [show cutQ (c :: l) q = (c :: (cutQ l q).1, (cutQ l q).2) from by rw [cutQ, if_neg (by rw [h]; decide), if_neg (by rw [he]; decide)]]
  simp

set_option maxHeartbeats 2000000 in
theorem cut_is (s word rest : List UInt8) (ends : Bool) (w : World) (hs : s.length ≤ 2000) (h : Hid (cutQ s false = (word, rest, ends))) :
    Calls Tryd.prog 26 #[.string ⟨s.toArray⟩] w fun e w' => e = .returned (.tuple #[.string ⟨word.toArray⟩, .string ⟨rest.toArray⟩, .bool ends]) ∧ Below w.heap.size w w' := by
  have hz := lxsize s
  have H0 : Hid (cutR [] false s = (word, rest, ends)) := Lib.hid (by unfold cutR; rw [h.out]; rfl)
  have q34 : ∀ W, (Instr.index 9 (.string ⟨#[34]⟩) (.int .i64 0)).run Tryd.prog W = .ok (.int .u8 34) W := fun W => lxbyte_at [34] 0 (by decide) 34 rfl W
  go_enter Tryd.func26, Tryd.ntmps26
  go_wp2
  go_loopw [5, 6, 10] (fun vo vq vi wr => ∃ (i n c : Nat) (a : List UInt8) (q : Bool) (A : Option Addr), vi = .int .i64 i ∧ i ≤ s.length ∧ n ≤ i ∧ a.length = n ∧ vo = .slice A n c ∧ vq = .bool q ∧ cutR a q (s.drop i) = (word, rest, ends) ∧ wr.ownsRow w.heap.size 5 1 (.slice A n c) n (ycl a) ∧ Below w.heap.size w wr)
    (fun _ _ vi _ => s.length - (intOf vi).toNat)
  case atStart => exact ⟨0, 0, 0, [], false, none, rfl, Nat.zero_le _, Nat.le_refl _, rfl, rfl, rfl, H0.out, World.ownsRow_nil _ _ _ _, Below.refl _ _⟩
  case round =>
    obtain ⟨i, n, cp, a, q, A, rfl, hi, hni, hn, rfl, rfl, hR, hO, hB⟩ := hrel
    have HR := Lib.hid hR
    have HO := Lib.hid hO
    have HB := Lib.hid hB
    have HN := Lib.hid hn
    clear hR hO hB hn
    by_cases hlt : i < s.length
    · obtain ⟨b, hb⟩ : ∃ b, s.getD i 0 = b := ⟨_, rfl⟩
      have hix := lxbyte_at s i hlt b hb
      have HD := Lib.hid (lxdrop_at hlt hb)
      have hii : (i : Int) < (s.length : Int) := by omega
      clear hb
      cases h34 : b == 34
      · have t34 := byte_ne 34 34 rfl h34
        cases he : (!q && endB b)
        · have HR2 : Hid (cutR (a ++ [b]) q (s.drop (i + 1)) = (word, rest, ends)) := Lib.hid (by rw [← cutR_more a q _ h34 he, ← HD.out]; exact HR.out)
          cases q
          · have PI := Lib.hid (fun W => parts_is b false W (Lib.hid (by simpa using he)))
            clear he
            go_wp2
            go_region
            go_wp2_with (first
              | (go_at_call 36; refine (PI.out _).mono ?_; rintro e w1 ⟨rfl, rfl⟩; simp only [])
              | (at_builtin
                 have HO' : Hid ((wr.drew.alloc (.cells #[.int .u8 (b.toNat : Int)] 5)).ownsRow w.heap.size 5 1 (.slice A n cp) n (ycl a)) := Lib.hid (lxown_keep HO.out ((Below.refl _ _).drew.alloc (Nat.le_refl _) _))
                 refine wpList_ypush (by rfl) (.tmp 13) (.tmp 17) (by rfl) (m := n + 1) HN.out rfl HO'.out (by rfl) ⟨wr.heap.size, 0, none⟩ b (by rfl) (by simp) (by omega) (by have := HB.out.size; simp; omega) ?_
                 intro A2 c2 w2 o2 b2
                 have O2 := Lib.hid o2
                 have B2 := Lib.hid ((HB.out.drew.alloc HB.out.size (.cells #[.int .u8 (b.toNat : Int)] 5)).trans b2)
                 clear o2 b2 HO'))
            go_roundw
            case rel => exact ⟨i + 1, n + 1, c2, a ++ [b], false, A2, by go_num, by omega, by omega, by rw [List.length_append, HN.out]; rfl, rfl, rfl, HR2.out, O2.out, B2.out⟩
            case measure => simp [intOf]; omega
          · clear he
            go_wp2
            go_region
            go_wp2_with (first
              | (at_builtin
                 have HO' : Hid ((wr.drew.alloc (.cells #[.int .u8 (b.toNat : Int)] 5)).ownsRow w.heap.size 5 1 (.slice A n cp) n (ycl a)) := Lib.hid (lxown_keep HO.out ((Below.refl _ _).drew.alloc (Nat.le_refl _) _))
                 refine wpList_ypush (by rfl) (.tmp 13) (.tmp 17) (by rfl) (m := n + 1) HN.out rfl HO'.out (by rfl) ⟨wr.heap.size, 0, none⟩ b (by rfl) (by simp) (by omega) (by have := HB.out.size; simp; omega) ?_
                 intro A2 c2 w2 o2 b2
                 have O2 := Lib.hid o2
                 have B2 := Lib.hid ((HB.out.drew.alloc HB.out.size (.cells #[.int .u8 (b.toNat : Int)] 5)).trans b2)
                 clear o2 b2 HO'))
            go_roundw
            case rel => exact ⟨i + 1, n + 1, c2, a ++ [b], true, A2, by go_num, by omega, by omega, by rw [List.length_append, HN.out]; rfl, rfl, rfl, HR2.out, O2.out, B2.out⟩
            case measure => simp [intOf]; omega
        · have hq : q = false ∧ endB b = true := by
            rw [Bool.and_eq_true] at he
            exact ⟨by simpa using he.1, he.2⟩
          obtain ⟨rfl, hb⟩ := hq
          have E : Hid (word = a ∧ rest = s.drop i ∧ ends = true) := Lib.hid (by
            have := HR.out
            rw [HD.out, cutR_stop a _ h34 hb] at this
            injection this with e1 e2; injection e2 with e2 e3
            exact ⟨e1.symm, by rw [HD.out]; exact e2.symm, e3.symm⟩)
          have PI := Lib.hid (fun W => parts_is b true W (Lib.hid hb))
          obtain ⟨t, ht⟩ : ∃ t, s.drop i = t := ⟨_, rfl⟩
          have hsl := lxfrom_run s i t ht (by omega)
          have HT := Lib.hid ht
          have hcv := fun W k => bytes_text' (W := W) HN.out HO.out k
          have hcv1 := hcv _ (Below.refl _ _).drew
          have hcv2 := hcv _ (Below.refl _ _).drew.drew
          clear he hb ht hcv
          go_wp2
          go_region
          go_wp2_with (first
            | (go_at_call 36; refine (PI.out _).mono ?_; rintro e w1 ⟨rfl, rfl⟩; simp only []))
          go_region
          go_wp2
          go_ret3
          rw [E.out.1, E.out.2.1, E.out.2.2, HT.out]
          exact ⟨rfl, HB.out.drew.drew⟩
      · have t34 := byte_eq 34 34 rfl h34
        have HR2 : Hid (cutR a (!q) (s.drop (i + 1)) = (word, rest, ends)) := Lib.hid (by rw [← cutR_34 a q _ h34, ← HD.out]; exact HR.out)
        go_wp2
        go_region
        go_wp2
        go_roundw
        case rel => exact ⟨i + 1, n, cp, a, !q, A, by go_num, by omega, by omega, HN.out, rfl, rfl, HR2.out, lxown_keep HO.out (Below.refl _ _).drew, HB.out.drew⟩
        case measure => simp [intOf]; omega
    · obtain rfl : i = s.length := by omega
      have hii : ¬ ((s.length : Nat) : Int) < (s.length : Int) := by omega
      have E : Hid (word = a ∧ rest = [] ∧ ends = !q) := Lib.hid (by
        have := HR.out
        rw [List.drop_length, cutR_end] at this
        injection this with e1 e2; injection e2 with e2 e3
        exact ⟨e1.symm, e2.symm, e3.symm⟩)
      have hcv := bytes_text HN.out HO.out
      go_wp2
      go_ret3
      rw [E.out.1, E.out.2.1, E.out.2.2]
      exact ⟨rfl, HB.out⟩

theorem fromWord_is (l r : List UInt8) (w : World) (h : Hid (fromQ l = r)) : Calls Tryd.prog 25 #[.string ⟨l.toArray⟩] w fun e w' => e = .returned (.string ⟨r.toArray⟩) ∧ Below w.heap.size w w' := by
  obtain ⟨t, ht⟩ : ∃ t, l.dropWhile gapB = t := ⟨_, rfl⟩
  have TG := Lib.hid (fun W => trimGap_is l t W (Lib.hid ht))
  by_cases h35 : t.head? = some 35
  · have E : Hid (r = []) := Lib.hid (by rw [← h.out]; unfold fromQ; rw [ht, if_pos h35])
    have HH := Lib.hid (fun W => hasHash_is t true W (Lib.hid (decide_eq_true h35)))
    clear h35 ht
    go_enter Tryd.func25, Tryd.ntmps25
    go_wp2_with (first
      | (go_at_call 34; refine (TG.out _).mono ?_; rintro e w1 ⟨rfl, k1⟩
         have K1 := Lib.hid k1
         clear k1
         simp only [])
      | (go_at_call 35; refine (HH.out _).mono ?_; rintro e w2 ⟨rfl, rfl⟩; simp only []))
    go_ret
    rw [E.out]
    exact ⟨rfl, K1.out⟩
  · have E : Hid (r = t) := Lib.hid (by rw [← h.out]; unfold fromQ; rw [ht, if_neg h35])
    have HH := Lib.hid (fun W => hasHash_is t false W (Lib.hid (decide_eq_false h35)))
    clear h35 ht
    go_enter Tryd.func25, Tryd.ntmps25
    go_wp2_with (first
      | (go_at_call 34; refine (TG.out _).mono ?_; rintro e w1 ⟨rfl, k1⟩
         have K1 := Lib.hid k1
         clear k1
         simp only [])
      | (go_at_call 35; refine (HH.out _).mono ?_; rintro e w2 ⟨rfl, rfl⟩; simp only []))
    go_ret
    rw [E.out]
    exact ⟨rfl, K1.out⟩

theorem wordsIn_any (l : List UInt8) (w : World) :
    Calls Tryd.prog 18 #[.string ⟨l.toArray⟩] w fun e w' => e = .returned (.func (.func 24) #[] #[.pointer (some ⟨w.heap.size, 0, none⟩)]) ∧ w' = w.alloc (.cells #[.string ⟨l.toArray⟩] 9) := by
  have hmf : ∀ (fn : Fn) (first cap : Array Value) (w : World), (Instr.makeFunc fn first cap).run Tryd.prog w = .ok (.func fn first cap) w := fun _ _ _ _ => rfl
  go_enter Tryd.func18, Tryd.ntmps18
  go_wp2
  go_ret
  exact ⟨rfl, rfl⟩
end Go.Proofs.YtomiopdmgdidnaaDoor

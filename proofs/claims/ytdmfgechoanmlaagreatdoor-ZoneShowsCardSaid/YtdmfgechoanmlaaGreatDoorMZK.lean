/- The contract of slices.SortStableFunc at a row of structs: the row, each thing behind all that are no greater and were ahead of it.
A row of structs that the call made itself: sorted. -/
import Derived.Test.YtdmfgechoanmlaaGreatDoorSoF
namespace Go.Proofs.YtdmfgechoanmlaaGreatDoor
open Go Go.RowKit Go.Sort Go.Lib
section
variable {α : Type}

/-- A row in blocks of s, each one sorted. -/
inductive Bks (lt : α → α → Bool) (s : Nat) : List α → List α → Prop
  | last (c : List α) : c.length ≤ s → Bks lt s (iso lt c) c
  | more (c r o : List α) : c.length = s → Bks lt s r o → Bks lt s (iso lt c ++ r) (c ++ o)
theorem Bks.len {lt : α → α → Bool} {s : Nat} {r o : List α} (h : Bks lt s r o) : r.length = o.length := by
  induction h with
  | last c hc => simp
  | more c r o hc _ ih => simp [ih]
theorem Bks.one {lt : α → α → Bool} {s : Nat} (_hs : 0 < s) {r o : List α} (h : Bks lt s r o) (hl : r.length ≤ s) : r = iso lt o := by
  cases h with
  | last c hc => rfl
  | more c r o hc h =>
    have h0 := h.len
    rw [List.length_append, iso_len] at hl
    have e1 : r = [] := List.length_eq_zero_iff.1 (by omega)
    have e2 : o = [] := List.length_eq_zero_iff.1 (by rw [← h0, e1]; rfl)
    rw [e1, e2, List.append_nil, List.append_nil]
theorem Bks.two {lt : α → α → Bool} {s : Nat} (_hs : 0 < s) {r o : List α} (h : Bks lt s r o) (hl : s < r.length) :
    ∃ c1 c2 r' o', r = iso lt c1 ++ (iso lt c2 ++ r') ∧ o = c1 ++ (c2 ++ o') ∧ c1.length = s ∧ 0 < c2.length ∧ c2.length ≤ s ∧ (c2.length = s ∨ r' = []) ∧ Bks lt s r' o' := by
  cases h with
  | last c hc => rw [iso_len] at hl; omega
  | more c r o hc h =>
    rw [List.length_append, iso_len] at hl
    cases h with
    | last _ hd => exact ⟨c, o, [], [], by simp, by simp, hc, by rw [iso_len] at hl; omega, hd, .inr rfl, Bks.last [] (by simp)⟩
    | more d r o hd h => exact ⟨c, d, r, o, rfl, rfl, hc, by omega, by omega, .inl hd, h⟩
end
section
variable {α : Type} [Inhabited α]

theorem smrg_is (k : Nat) (zE : ∀ w, (Go.sizeOf 145).run Tryz.prog w = .ok k w) (enc : α → List Value) (cf : α → α → Int) (O : WOrd (ltOf cf)) (g : Nat) (cb : Array Value) (eg : ∀ args w, (callFunc g args).run Tryz.prog w = .ok (.enter g args) w) (blk off cap N : Nat) (d0 : Array α) (w0 : World)
    (R : RowK enc k w0 blk off d0) (C : CmpLays Tryz.prog g cb enc k cf blk off d0.size w0) (hN : N = d0.size) (hsz : N < 4611686018427387904) : ∀ M, MrgIs k enc cf g cb blk off cap N M d0 w0
  | 0 => fun W X A B Y a m b S hs ha hm hb hA0 hB0 hM => by omega
  | M + 1 => fun W X A B Y a m b S hs ha hm hb hA0 hB0 hM hA hB => by
    have IH := Lib.hid (smrg_is k zE enc cf O g cb eg blk off cap N d0 w0 R C hN hsz M)
    have RT : Hid (RotIs k enc g cb blk off cap N d0 w0) := fun W X U V Y a m b S hs ha hm hb hU hV => srot_is k zE enc g cb blk off cap N a m b d0 w0 W X U V Y R S hs ha hm hb hU hV hN hsz
    by_cases h1 : A.length = 1
    · obtain ⟨x, rfl⟩ := List.length_eq_one_iff.1 h1
      exact smrg_left k zE enc cf O g cb eg blk off cap N a m b d0 w0 W x X B Y R C S hs ha hm hb hB hN hsz
    · by_cases h2 : B.length = 1
      · obtain ⟨x, rfl⟩ := List.length_eq_one_iff.1 h2
        exact smrg_right k zE enc cf O g cb eg blk off cap N a m b d0 w0 W x X A Y R C S hs ha hm hb hA h1 hN hsz
      · by_cases h3 : (a + b) / 2 < m
        · exact smrg_hi k zE enc cf O g cb eg blk off cap N M a m b ((a + b) / 2) _ d0 w0 W X A B Y R C S hs ha hm hb (by omega) (by omega) (by omega) (by omega) rfl h3 hA hB hN hsz IH RT hM
        · exact smrg_lo k zE enc cf O g cb eg blk off cap N M a m b ((a + b) / 2) _ d0 w0 W X A B Y R C S hs ha hm hb (by omega) (by omega) (by omega) (by omega) rfl (by omega) hA hB hN hsz IH RT hM

set_option maxHeartbeats 4000000 in
set_option maxRecDepth 100000 in
theorem sstable_is (k : Nat) (zE : ∀ w, (Go.sizeOf 145).run Tryz.prog w = .ok k w) (enc : α → List Value) (cf : α → α → Int) (O : WOrd (ltOf cf)) (g : Nat) (cb : Array Value) (eg : ∀ args w, (callFunc g args).run Tryz.prog w = .ok (.enter g args) w) (blk off cap N : Nat) (d0 : Array α) (w0 w : World) (l : List α)
    (R : RowK enc k w0 blk off d0) (C : CmpLays Tryz.prog g cb enc k cf blk off d0.size w0) (S : SWK enc k w0 blk off l.toArray w) (hs : l.length = d0.size) (hN : N = d0.size) (hsz : N < 4611686018427387904) :
    Calls Tryz.prog 168 #[.slice (some ⟨blk, off, none⟩) N cap, .int .i64 N, .func (.func g) #[] cb] w fun e w' => e = .returned (.tuple #[]) ∧ SWK enc k w0 blk off (iso (ltOf cf) l).toArray w' := by
  have S0 : Aside (SWK enc k w0 blk off l.toArray w) := S
  have INS : Hid (∀ (W : World) (X D Y : List α) (a b : Nat), SWK enc k w0 blk off (X ++ (D ++ Y)).toArray W → (X ++ (D ++ Y)).length = d0.size → X.length = a → a + D.length = b →
      Calls Tryz.prog 169 #[.slice (some ⟨blk, off, none⟩) N cap, .int .i64 a, .int .i64 b, .func (.func g) #[] cb] W fun e w' => e = .returned (.tuple #[]) ∧ SWK enc k w0 blk off (X ++ (iso (ltOf cf) D ++ Y)).toArray w') :=
    fun W X D Y a b S h1 h2 h3 => sins_is k zE enc cf O g cb eg blk off cap N a b d0 w0 W X D Y R C S h1 h2 h3 hN hsz
  have MRG : Hid (∀ M, MrgIs k enc cf g cb blk off cap N M d0 w0) := smrg_is k zE enc cf O g cb eg blk off cap N d0 w0 R C hN hsz
  have hl : l.length = N := by omega
  have HN := Lib.hid hN
  clear S hN C R hs
  go_enter Tryz.func168, Tryz.ntmps168
  go_wp2
  go_loopg [7, 8] (N + 1) (fun kx s7 s8 wr => ∃ (a : Nat) (T P o : List α), s7 = .int .i64 a ∧ s8 = .int .i64 ((a + 20 : Nat) : Int) ∧ a + o.length = N ∧ T.length = a ∧ P.length = a ∧ N - a < kx + 1 ∧ Hid (l = P ++ o) ∧ Hid (∀ r' o', Bks (ltOf cf) 20 r' o' → Bks (ltOf cf) 20 (T ++ r') (P ++ o')) ∧ Aside (SWK enc k w0 blk off (T ++ o).toArray wr))
  case atStart => exact ⟨0, [], [], l, rfl, rfl, by omega, rfl, rfl, by omega, rfl, fun r' o' h => h, S0⟩
  case round =>
    clear S0
    obtain ⟨a, T, P, o, rfl, rfl, ho, hT, hP, hkx, HL, HK, S1⟩ := hrel
    by_cases hlt : a + 20 ≤ N
    · have hltz : ((a + 20 : Nat) : Int) ≤ (N : Int) := by omega
      have hltz2 : (a : Int) + 20 ≤ (N : Int) := by omega
      have lc : (o.take 20).length = 20 := by rw [List.length_take]; omega
      have HO : Hid (o = o.take 20 ++ o.drop 20) := (List.take_append_drop _ _).symm
      generalize o.take 20 = c at lc HO
      generalize o.drop 20 = o2 at HO
      have lo2 : a + 20 + o2.length = N := by have := congrArg List.length HO.out; rw [List.length_append] at this; omega
      have CI := INS.out wr T c o2 a (a + 20) (by rw [← HO.out]; exact S1.out) (by rw [← HN.out]; simp only [List.length_append]; omega) hT (by omega)
      have CI2 : Calls Tryz.prog 169 #[.slice (some ⟨blk, off, none⟩) N cap, .int .i64 a, .int .i64 ((a : Int) + 20), .func (.func g) #[] cb] wr fun e w' => e = .returned (.tuple #[]) ∧ SWK enc k w0 blk off (T ++ (iso (ltOf cf) c ++ o2)).toArray w' := CI
      have wa : IntKind.i64.wrap ((a : Int) + 20 + 20) = (a : Int) + 20 + 20 := by rw [IntKind.wrap_i64]; omega
      clear S1 CI
      go_wp2_with (go_at_call 169; (refine CI2.mono ?_); (rintro x1 w2 ⟨rfl, S2⟩); simp only [])
      go_roundg (N - (a + 20))
      case measure => omega
      case rel =>
        refine ⟨a + 20, T ++ iso (ltOf cf) c, P ++ c, o2, by go_num, by go_num, lo2, by simp; omega, by simp; omega, by omega, (show Hid _ from by show _ = _; rw [HL.out, HO.out]; simp), fun r' o' h => ?_, by
          show SWK _ _ _ _ _ _ _
          simpa using S2⟩
        have := HK.out _ _ (Bks.more c r' o' lc h)
        simpa using this
    · have hltz : ¬ ((a + 20 : Nat) : Int) ≤ (N : Int) := by omega
      have hltz2 : ¬ (a : Int) + 20 ≤ (N : Int) := by omega
      have CI := INS.out wr T o [] a N (by simpa using S1.out) (by rw [← HN.out]; simp only [List.length_append, List.length_nil]; omega) hT ho
      have HB : Hid (Bks (ltOf cf) 20 (T ++ iso (ltOf cf) o) l) := by
        have := HK.out _ _ (Bks.last o (by omega))
        rw [← HL.out] at this; exact this
      clear S1 HK HL
      go_wp2_with (go_at_call 169; (refine CI.mono ?_); (rintro x1 w2 ⟨rfl, S2⟩); simp only [])
      have S3 : Aside (SWK enc k w0 blk off (T ++ iso (ltOf cf) o).toArray w2) := by show SWK _ _ _ _ _ _ _; simpa using S2
      have lr : (T ++ iso (ltOf cf) o).length = N := by rw [HB.out.len]; exact hl
      generalize T ++ iso (ltOf cf) o = r0 at HB S3 lr
      clear S2 CI hltz hltz2 hT hP ho hlt hkx
      go_loopg [6] (N + 1) (fun kx s6 wr => ∃ (s : Nat) (r : List α), s6 = .int .i64 s ∧ 0 < s ∧ N < kx + s ∧ (s ≤ N ∨ s ≤ 2 * N ∨ s = 20) ∧ Hid (Bks (ltOf cf) s r l) ∧ Aside (SWK enc k w0 blk off r.toArray wr))
      case atStart => exact ⟨20, r0, rfl, by omega, by omega, by omega, HB, S3⟩
      case round =>
        clear S3 HB lr
        obtain ⟨s, r, rfl, hs0, hks, hs2, HB, S1⟩ := hrel
        have lr : r.length = N := by rw [HB.out.len]; exact hl
        by_cases hsn : s < N
        · have hsz1 : (s : Int) < (N : Int) := by omega
          have wq : IntKind.i64.wrap (2 * (s : Int)) = 2 * (s : Int) := by rw [IntKind.wrap_i64]; omega
          have wq2 : IntKind.i64.wrap ((s : Int) * 2) = (s : Int) * 2 := by rw [IntKind.wrap_i64]; omega
          go_wp2
          go_loopg [7, 8] (N + 1) (fun kx s7 s8 wr => ∃ (a : Nat) (T P r o : List α), s7 = .int .i64 a ∧ s8 = .int .i64 ((a + 2 * s : Nat) : Int) ∧ a + r.length = N ∧ T.length = a ∧ N - a < kx + 1 ∧ Hid (l = P ++ o) ∧ Hid (Bks (ltOf cf) s r o) ∧ Hid (∀ r' o', Bks (ltOf cf) (2 * s) r' o' → Bks (ltOf cf) (2 * s) (T ++ r') (P ++ o')) ∧ Aside (SWK enc k w0 blk off (T ++ r).toArray wr))
          case atStart => exact ⟨0, [], [], r, l, rfl, by first | rfl | go_num | exact congrArg (Value.int .i64) (by omega), by omega, rfl, by omega, rfl, HB, fun r' o' h => h, S1⟩
          case round =>
            clear S1 HB lr
            obtain ⟨a, T, P, r, o, rfl, rfl, hr, hT, hka, HL, HB, HK, S1⟩ := hrel
            have lo := HB.out.len
            by_cases hlt : a + 2 * s ≤ N
            · have hltz : ((a + 2 * s : Nat) : Int) ≤ (N : Int) := by omega
              have hltz2 : (a : Int) + 2 * (s : Int) ≤ (N : Int) := by omega
              obtain ⟨c1, c2, r2, o2, e1, e2, l1, l20, l2, l3, hb2⟩ := HB.out.two hs0 (by omega)
              have l2' : c2.length = s := by
                rcases l3 with h | h
                · exact h
                · rw [e1, h] at hr; simp at hr; omega
              have CM := MRG.out (2 * s) wr T (iso (ltOf cf) c1) (iso (ltOf cf) c2) r2 a (a + s) (a + 2 * s) (by have := S1.out; rw [e1] at this; exact this) (by have h0 := hr; rw [e1] at h0; rw [← HN.out]; simp only [List.length_append, iso_len] at h0 ⊢; omega) hT (by rw [iso_len]; omega) (by rw [iso_len]; omega) (by rw [iso_len]; omega) (by rw [iso_len]; omega) (by omega) (iso_srt O _) (iso_srt O _)
              rw [iso_mrg O] at CM
              have CM2 : Calls Tryz.prog 170 #[.slice (some ⟨blk, off, none⟩) N cap, .int .i64 a, .int .i64 ((a : Int) + (s : Int)), .int .i64 ((a : Int) + 2 * (s : Int)), .func (.func g) #[] cb] wr fun e w' => e = .returned (.tuple #[]) ∧ SWK enc k w0 blk off (T ++ (iso (ltOf cf) (c1 ++ c2) ++ r2)).toArray w' := CM
              have wa : IntKind.i64.wrap ((a : Int) + (s : Int)) = (a : Int) + (s : Int) := by rw [IntKind.wrap_i64]; omega
              have wb : IntKind.i64.wrap ((a : Int) + 2 * (s : Int) + 2 * (s : Int)) = (a : Int) + 2 * (s : Int) + 2 * (s : Int) := by rw [IntKind.wrap_i64]; omega
              have lr2 : a + 2 * s + r2.length = N := by rw [e1] at hr; simp only [List.length_append, iso_len] at hr; omega
              have HL2 : Hid (l = (P ++ (c1 ++ c2)) ++ o2) := by show _ = _; rw [HL.out, e2]; simp
              have HB2 := Lib.hid hb2
              have HK2 : Hid (∀ r' o', Bks (ltOf cf) (2 * s) r' o' → Bks (ltOf cf) (2 * s) ((T ++ iso (ltOf cf) (c1 ++ c2)) ++ r') ((P ++ (c1 ++ c2)) ++ o')) := fun r' o' h => by
                have := HK.out _ _ (Bks.more (c1 ++ c2) r' o' (by rw [List.length_append]; omega) h)
                rw [List.append_assoc, List.append_assoc]; exact this
              have hT2 : (T ++ iso (ltOf cf) (c1 ++ c2)).length = a + 2 * s := by rw [List.length_append, iso_len, List.length_append]; omega
              clear S1 CM HB HK HL hb2 e1 e2 hr lo
              go_wp2_with (go_at_call 170; (refine CM2.mono ?_); (rintro x1 w2 ⟨rfl, S2⟩); simp only [])
              go_roundg (N - (a + 2 * s))
              case measure => omega
              case rel =>
                exact ⟨a + 2 * s, T ++ iso (ltOf cf) (c1 ++ c2), P ++ (c1 ++ c2), r2, o2, by first | rfl | go_num | exact congrArg (Value.int .i64) (by omega), by first | rfl | go_num | exact congrArg (Value.int .i64) (by omega), lr2, hT2, by omega, HL2, HB2, HK2, by
                  show SWK _ _ _ _ _ _ _
                  rw [List.append_assoc]; exact S2⟩
            · have hltz : ¬ ((a + 2 * s : Nat) : Int) ≤ (N : Int) := by omega
              have hltz2 : ¬ (a : Int) + 2 * (s : Int) ≤ (N : Int) := by omega
              have wa : IntKind.i64.wrap ((a : Int) + (s : Int)) = (a : Int) + (s : Int) := by rw [IntKind.wrap_i64]; omega
              by_cases hm : a + s < N
              · have hmz : (a : Int) + (s : Int) < (N : Int) := by omega
                obtain ⟨c1, c2, r2, o2, e1, e2, l1, l20, l2, l3, hb2⟩ := HB.out.two hs0 (by omega)
                have e3 : r2 = [] := by
                  rcases l3 with h | h
                  · rw [e1] at hr; simp only [List.length_append, iso_len] at hr; exact List.length_eq_zero_iff.1 (by omega)
                  · exact h
                have e4 : o2 = [] := List.length_eq_zero_iff.1 (by rw [← hb2.len, e3]; rfl)
                have lc : a + s + c2.length = N := by rw [e1, e3] at hr; simp at hr; omega
                have CM := MRG.out (2 * s) wr T (iso (ltOf cf) c1) (iso (ltOf cf) c2) [] a (a + s) N (by have := S1.out; rw [e1, e3] at this; exact this) (by rw [← HN.out]; simp only [List.length_append, iso_len, List.length_nil]; omega) hT (by rw [iso_len]; omega) (by rw [iso_len]; omega) (by rw [iso_len]; omega) (by rw [iso_len]; omega) (by omega) (iso_srt O _) (iso_srt O _)
                rw [iso_mrg O] at CM
                have CM2 : Calls Tryz.prog 170 #[.slice (some ⟨blk, off, none⟩) N cap, .int .i64 a, .int .i64 ((a : Int) + (s : Int)), .int .i64 N, .func (.func g) #[] cb] wr fun e w' => e = .returned (.tuple #[]) ∧ SWK enc k w0 blk off (T ++ (iso (ltOf cf) (c1 ++ c2) ++ [])).toArray w' := CM
                have HB2 : Hid (Bks (ltOf cf) (2 * s) (T ++ iso (ltOf cf) (c1 ++ c2)) l) := by
                  have := HK.out _ _ (Bks.last (c1 ++ c2) (by rw [List.length_append]; omega))
                  rw [HL.out, e2, e4, List.append_nil]; exact this
                clear S1 CM HB HK HL hb2 e1 e2 e3 e4 l3
                go_wp2_with (go_at_call 170; (refine CM2.mono ?_); (rintro x1 w2 ⟨rfl, S2⟩); simp only [])
                go_roundg (N + 1 - 2 * s)
                case measure => omega
                case rel =>
                  exact ⟨2 * s, T ++ iso (ltOf cf) (c1 ++ c2), by first | rfl | go_num | exact congrArg (Value.int .i64) (by omega), by omega, by omega, by omega, HB2, by
                    show SWK _ _ _ _ _ _ _
                    rw [List.append_nil] at S2; exact S2⟩
              · have hmz : ¬ (a : Int) + (s : Int) < (N : Int) := by omega
                have e1 := HB.out.one hs0 (by omega)
                have HB2 : Hid (Bks (ltOf cf) (2 * s) (T ++ r) l) := by
                  have := HK.out _ _ (Bks.last o (by omega))
                  rw [HL.out, e1]; exact this
                clear HB HK HL e1
                go_wp2
                go_roundg (N + 1 - 2 * s)
                case measure => omega
                case rel => exact ⟨2 * s, T ++ r, by first | rfl | go_num | exact congrArg (Value.int .i64) (by omega), by omega, by omega, by omega, HB2, S1⟩
        · have hsz1 : ¬ (s : Int) < (N : Int) := by omega
          have e1 := HB.out.one hs0 (by omega)
          go_wp2
          go_end0
          exact ⟨rfl, by rw [← e1]; exact S1.out⟩

theorem ssort_is (k : Nat) (zE : ∀ w, (Go.sizeOf 145).run Tryz.prog w = .ok k w) (enc : α → List Value) (cf : α → α → Int) (O : WOrd (ltOf cf)) (g : Nat) (cb : Array Value) (eg : ∀ args w, (callFunc g args).run Tryz.prog w = .ok (.enter g args) w) (blk off cap : Nat) (w : World) (l : List α)
    (R : RowK enc k w blk off l.toArray) (C : CmpLays Tryz.prog g cb enc k cf blk off l.length w) (hsz : l.length < 4611686018427387904) :
    Calls Tryz.prog 160 #[.slice (some ⟨blk, off, none⟩) l.length cap, .func (.func g) #[] cb] w fun e w' => e = .returned (.tuple #[]) ∧ SWK enc k w blk off (iso (ltOf cf) l).toArray w' := by
  have CS := sstable_is k zE enc cf O g cb eg blk off cap l.length l.toArray w w l R (by simpa using C) (SWK.start R.hH) (by simp) (by simp) hsz
  clear C R
  go_enter Tryz.func160, Tryz.ntmps160
  go_wp2_with (go_at_call 168; (refine CS.mono ?_); (rintro x1 w2 ⟨rfl, S2⟩); simp only [])
  go_end0
  exact ⟨rfl, S2⟩
theorem sins_nil (g : Nat) (cb : Array Value) (w : World) :
    Calls Tryz.prog 169 #[.slice none 0 0, .int .i64 0, .int .i64 0, .func (.func g) #[] cb] w fun e w' => e = .returned (.tuple #[]) ∧ w = w' := by
  go_enter Tryz.func169, Tryz.ntmps169
  go_wp2
  refine wp_loop_rounds 1 ?_
  rw [rounds_succ]
  go_wp2
  go_end0
  exact ⟨rfl, rfl⟩
theorem ssort_nil (g : Nat) (cb : Array Value) (w : World) :
    Calls Tryz.prog 160 #[.slice none 0 0, .func (.func g) #[] cb] w fun e w' => e = .returned (.tuple #[]) ∧ w = w' := by
  have CS : ∀ W, Calls Tryz.prog 168 #[.slice none 0 0, .int .i64 0, .func (.func g) #[] cb] W fun e w' => e = .returned (.tuple #[]) ∧ W = w' := by
    intro W
    go_enter Tryz.func168, Tryz.ntmps168
    go_wp2
    refine wp_loop_rounds 1 ?_
    rw [rounds_succ]
    go_wp2_with (go_at_call 169; (refine (sins_nil g cb _).mono ?_); (rintro x1 w2 ⟨rfl, rfl⟩); simp only [])
    refine wp_loop_rounds 1 ?_
    rw [rounds_succ]
    go_wp2
    go_end0
    exact ⟨rfl, rfl⟩
  go_enter Tryz.func160, Tryz.ntmps160
  go_wp2_with (go_at_call 168; (refine (CS _).mono ?_); (rintro x1 w2 ⟨rfl, rfl⟩); simp only [])
  go_end0
  exact ⟨rfl, rfl⟩
end
end Go.Proofs.YtdmfgechoanmlaaGreatDoor

namespace Go.Proofs.YtdmfgechoanmlaaGreatDoor
open Go Go.RowKit Go.Sort Go.Lib
section
variable {α : Type}

/-- The cells of things, one behind the other. -/
def fcl (f : α → List Value) (l : List α) : List Value := l.flatMap f
@[simp] theorem fcl_nil (f : α → List Value) : fcl f [] = [] := rfl
theorem fcl_app (f : α → List Value) (l m : List α) : fcl f (l ++ m) = fcl f l ++ fcl f m := by simp [fcl]
theorem fcl_len {f : α → List Value} {k : Nat} (hk : ∀ x, (f x).length = k) (l : List α) : (fcl f l).length = l.length * k := by
  induction l with
  | nil => simp
  | cons x r ih => show (f x ++ fcl f r).length = _; rw [List.length_append, hk, ih, List.length_cons, Nat.add_mul]; omega
theorem fcl_at {f : α → List Value} {k : Nat} (hk : ∀ x, (f x).length = k) {l : List α} {i c : Nat} {x : α} (hx : l[i]? = some x) (hc : c < k) : (fcl f l)[i * k + c]? = (f x)[c]? := by
  induction l generalizing i with
  | nil => simp at hx
  | cons y r ih =>
    show (f y ++ fcl f r)[i * k + c]? = _
    cases i with
    | zero =>
      simp at hx; subst hx
      rw [Nat.zero_mul, Nat.zero_add, List.getElem?_append_left (by rw [hk]; exact hc)]
    | succ i =>
      rw [List.getElem?_append_right (by rw [hk, Nat.add_mul]; omega), hk, show (i + 1) * k + c - k = i * k + c by rw [Nat.add_mul]; omega]
      exact ih (by simpa using hx)
theorem fcl_one {f : α → List Value} (h1 : ∀ x, ∀ v ∈ f x, v.oneCell' = true) (l : List α) : ∀ u ∈ fcl f l, u.oneCell' = true := by
  intro u hu
  obtain ⟨x, -, hx⟩ := List.mem_flatMap.1 hu
  exact h1 x u hx
variable [Inhabited α]
theorem holds_own {f : α → List Value} {k : Nat} (hk : ∀ x, (f x).length = k) {l : List α} {W : World} {base g n c : Nat} {e : TypeId} (h : W.ownsRow base e k (.slice (some ⟨g, 0, none⟩) n c) n (fcl f l)) (hn : l.length = n) : HoldsK f k W g 0 l.toArray := by
  rcases h.2 with ⟨h0, -⟩ | ⟨g', cap, cur, e1, -, hb, -, -, -, hc⟩
  · cases h0
  · cases e1
    intro t ht
    have ht' : t < l.length * k := by simpa using ht
    have k0 : 0 < k := by rcases Nat.eq_zero_or_pos k with h | h; · subst h; simp at ht'
                          · exact h
    have hi : t / k < l.length := Nat.div_lt_of_lt_mul (by rwa [Nat.mul_comm] at ht')
    have hmod := Nat.mod_lt t k0
    have hv := fcl_at hk (List.getElem?_eq_getElem hi) hmod
    rw [Nat.div_add_mod' t k] at hv
    have hcell : cur.toList[t]? = (f l[t / k])[t % k]? := by
      rw [← hv, ← hc, List.getElem?_take, if_pos (by rw [← hn]; exact ht')]
    refine ⟨?_, by simp [World.frozen?, hb]⟩
    rw [get_flatK f k l.toArray t (by simpa using ht'), Nat.zero_add]
    have e2 : l.toArray[t / k]! = l[t / k] := by simp [hi]
    have e3 : (f l[t / k])[t % k]? = some ((f l[t / k])[t % k]!) := by
      rw [List.getElem?_eq_getElem (by rw [hk]; exact hmod)]
      congr 1
      rw [List.getElem!_eq_getElem?_getD, List.getElem?_eq_getElem (by rw [hk]; exact hmod)]; rfl
    rw [e2]
    show W.cell? ⟨g, t, none⟩ = some ((f l[t / k])[t % k]!)
    rw [← e3, ← hcell]
    have := cell_of_row W g t _ _ _ hb
    rw [this]; simp
theorem sortw_below (f : α → List Value) (k : Nat) {W : World} {g off B : Nat} (hB : B ≤ g) (hW : B ≤ W.heap.size) {d : Array α} {W' : World} (h : SWK f k W g off d W') : Below B W W' := by
  obtain ⟨n, os, rfl⟩ := h
  refine ⟨rfl, rfl, rfl, ?_, fun j hj => ?_⟩
  · simp [sortWorldK, size_putRowK, Sort.ahead]
  · show ((W.heap.modify g _) ++ os)[j]? = _
    rw [Array.getElem?_append_left (by rw [Array.size_modify]; omega), Array.getElem?_modify, if_neg (by omega)]
theorem swk_other {f : α → List Value} {k : Nat} {W : World} {g off : Nat} {d : Array α} {W' : World} (h : SWK f k W g off d W') {j : Nat} (hj : j ≠ g) (hl : j < W.heap.size) : W'.heap[j]? = W.heap[j]? := by
  obtain ⟨n, os, rfl⟩ := h
  show ((W.heap.modify g _) ++ os)[j]? = _
  rw [Array.getElem?_append_left (by rw [Array.size_modify]; omega), Array.getElem?_modify, if_neg (by omega)]
theorem swk_cell {f : α → List Value} {k : Nat} {W : World} {g : Nat} {l m : List α} {W' : World} (h : SWK f k W g 0 m.toArray W') (hg : g < W.heap.size) (h0 : HoldsK f k W g 0 l.toArray) (hl : m.length = l.length) {i c : Nat} {x : α} {v : Value} (hx : m[i]? = some x) (hv : (f x)[c]? = some v) (hc : c < k) : W'.cell? ⟨g, i * k + c, none⟩ = some v := by
  have hi := (List.getElem?_eq_some_iff.1 hx).1
  have := (HoldsK.cell (h.holds hg h0 (by simpa using hl)) (i := i) (c := c) (by simpa using hi) hc).1
  rw [Nat.zero_add] at this
  rw [this]
  have e : m.toArray[i]! = x := by simp only [List.getElem!_toArray]; rw [List.getElem!_eq_getElem?_getD, hx]; rfl
  rw [e, List.getElem!_eq_getElem?_getD, hv]; rfl
end
end Go.Proofs.YtdmfgechoanmlaaGreatDoor

/- The walk of ClockSpans: it returns true, for every number and every text; nothing that was in memory changes. The tables read as they are laid. -/
import Derived.Test.YtjafbopmedbhcaaDoorRfD
import Derived.Test.YtjafbopmedbhcaaDoorRfB
import Derived.Test.YtjafbopmedbhcaaDoorDtx
import Derived.Test.YtjafbopmedbhcaaDoorCBaA
namespace Go.Proofs.YtjafbopmedbhcaaDoor
open Go.RowKit

theorem spans_long (n : Int) (s : List UInt8) (w : World) (H : Laid3 w) (hs : 40 < s.length) :
    Calls Tryd.prog 4 #[.int .i64 n, .string ⟨s.toArray⟩] w fun e w' => e = .returned (.bool true) ∧ Below w.heap.size w w' := by
  have HL := Lib.hid H
  have hz : (⟨s.toArray⟩ : ByteArray).size = s.length := by simp [ByteArray.size]
  clear H
  go_enter Tryd.func4, Tryd.ntmps4
  go_wp2_with (go_at_call 16; refine (awake_yes _ HL.out).mono ?_; rintro e w3 ⟨rfl, k3⟩; simp only [])
  go_ret
  exact ⟨rfl, k3⟩

theorem rtext_is (n : Int) (T : List UInt8) (w : World) (h : inB n) (hT : Hid (textL n = T)) :
    Calls Tryd.prog 18 #[.int .i64 n] w fun e w' => e = .returned (.string ⟨T.toArray⟩) ∧ Below w.heap.size w w' := rtext_any n T w h.1 h.2 hT
theorem rspan_eq (s : List UInt8) (n x : Int) (w : World) (hs : s.length ≤ 900) (h : Hid (spanN s = n ∧ spanE s = x)) :
    Calls Tryd.prog 20 #[.string ⟨s.toArray⟩] w fun e w' => e = .returned (.tuple #[.int .i64 n, .int .i64 x]) ∧ Below w.heap.size w w' := by
  have := rspan_any s w hs
  rwa [h.out.1, h.out.2] at this

set_option maxRecDepth 100000 in
theorem spans_far (n : Int) (s : List UInt8) (m x : Int) (w : World) (H : Laid3 w) (hs : s.length ≤ 40) (hf : ¬ inB n) (HS : Hid (spanN s = m ∧ spanE s = x)) :
    Calls Tryd.prog 4 #[.int .i64 n, .string ⟨s.toArray⟩] w fun e w' => e = .returned (.bool true) ∧ Below w.heap.size w w' := by
  have HL0 := Lib.hid H
  have K0 := Lib.hid (Below.refl w.heap.size w)
  have HF := Lib.hid hf
  have hz : (⟨s.toArray⟩ : ByteArray).size = s.length := by simp [ByteArray.size]
  have sl : s.length ≤ 1000 := by omega
  have sl9 : s.length ≤ 900 := by omega
  clear H hf
  go_enter Tryd.func4, Tryd.ntmps4
  go_wp2_with (first
    | (go_at_call 17; ((with_reducible refine (text_far n _ HF.out).mono ?_)); rintro e w1 ⟨rfl, kk⟩; simp only []
       have K1 := Lib.hid (K0.out.trans (kk.mono K0.out.size))
       have HL1 := Lib.hid (HL0.out.next kk)
       clear kk K0 HL0)
    | (go_at_call 11; ((with_reducible refine (far_yes n _ HF.out).mono ?_)); rintro e wf ⟨rfl, rfl⟩; simp only [])
    | (go_at_call 19; ((with_reducible refine (span_is s m x _ sl HL1.out HS).mono ?_)); rintro e w2 ⟨rfl, kk⟩; simp only []
       have K2 := Lib.hid (K1.out.trans (kk.mono K1.out.size))
       have HL2 := Lib.hid (HL1.out.next kk)
       clear kk K1 HL1)
    | (go_at_call 20; ((with_reducible refine (rspan_eq s m x _ sl9 HS).mono ?_)); rintro e w3 ⟨rfl, kk⟩; simp only []
       have K3 := Lib.hid (K2.out.trans (kk.mono K2.out.size))
       have HL3 := Lib.hid (HL2.out.next kk)
       clear kk K2 HL2)
    | (go_at_call 16; ((with_reducible refine (awake_yes _ HL3.out).mono ?_)); rintro e w4 ⟨rfl, kk⟩; simp only []
       have K4 := Lib.hid (K3.out.trans (kk.mono K3.out.size))
       have HL4 := Lib.hid (HL3.out.next kk)
       clear kk K3 HL3))
  go_ret
  exact ⟨rfl, K4.out⟩

set_option maxRecDepth 100000 in
theorem spans_in (n : Int) (s : List UInt8) (T : List UInt8) (m x : Int) (w : World) (H : Laid3 w) (hs : s.length ≤ 40) (hf : inB n) (HT : Hid (textL n = T)) (HS : Hid (spanN s = m ∧ spanE s = x)) :
    Calls Tryd.prog 4 #[.int .i64 n, .string ⟨s.toArray⟩] w fun e w' => e = .returned (.bool true) ∧ Below w.heap.size w w' := by
  have HL0 := Lib.hid H
  have K0 := Lib.hid (Below.refl w.heap.size w)
  have HF := Lib.hid hf
  have hz : (⟨s.toArray⟩ : ByteArray).size = s.length := by simp [ByteArray.size]
  have sl : s.length ≤ 1000 := by omega
  have sl9 : s.length ≤ 900 := by omega
  clear H hf
  go_enter Tryd.func4, Tryd.ntmps4
  go_wp2_with (first
    | (go_at_call 17; ((with_reducible refine (text_is n T _ HL0.out.pow HF.out HT).mono ?_)); rintro e w1 ⟨rfl, kk⟩; simp only []
       have K1 := Lib.hid (K0.out.trans (kk.mono K0.out.size))
       have HL1 := Lib.hid (HL0.out.next kk)
       clear kk K0 HL0)
    | (go_at_call 11; ((with_reducible refine (far_no n _ HF.out).mono ?_)); rintro e wf ⟨rfl, rfl⟩; simp only [])
    | (go_at_call 18; ((with_reducible refine (rtext_is n T _ HF.out HT).mono ?_)); rintro e w2 ⟨rfl, kk⟩; simp only []
       have K2 := Lib.hid (K1.out.trans (kk.mono K1.out.size))
       have HL2 := Lib.hid (HL1.out.next kk)
       clear kk K1 HL1)
    | (go_at_call 19; ((with_reducible refine (span_is s m x _ sl HL2.out HS).mono ?_)); rintro e w3 ⟨rfl, kk⟩; simp only []
       have K3 := Lib.hid (K2.out.trans (kk.mono K2.out.size))
       have HL3 := Lib.hid (HL2.out.next kk)
       clear kk K2 HL2)
    | (go_at_call 20; ((with_reducible refine (rspan_eq s m x _ sl9 HS).mono ?_)); rintro e w4 ⟨rfl, kk⟩; simp only []
       have K4 := Lib.hid (K3.out.trans (kk.mono K3.out.size))
       have HL4 := Lib.hid (HL3.out.next kk)
       clear kk K3 HL3)
    | (go_at_call 16; ((with_reducible refine (awake_yes _ HL4.out).mono ?_)); rintro e w5 ⟨rfl, kk⟩; simp only []
       have K5 := Lib.hid (K4.out.trans (kk.mono K4.out.size))
       have HL5 := Lib.hid (HL4.out.next kk)
       clear kk K4 HL4))
  go_ret
  exact ⟨rfl, K5.out⟩

theorem clockSpans_walk (n : Int) (s : ByteArray) (w : World) (H : Laid3 w) (_ : -9223372036854775808 ≤ n) (_ : n ≤ 9223372036854775807) (_ : s.size ≤ maxLen) :
    Calls Tryd.prog 4 #[.int .i64 n, .string s] w fun e w' => e = .returned (.bool true) ∧ Below w.heap.size w w' := by
  obtain ⟨l, rfl⟩ : ∃ l : List UInt8, s = ⟨l.toArray⟩ := ⟨s.data.toList, by simp⟩
  by_cases hs : l.length ≤ 40
  · by_cases hf : inB n
    · exact spans_in n l _ _ _ w H hs hf (Lib.hid rfl) (Lib.hid ⟨rfl, rfl⟩)
    · exact spans_far n l _ _ w H hs hf (Lib.hid ⟨rfl, rfl⟩)
  · exact spans_long n l w H (by omega)
end Go.Proofs.YtjafbopmedbhcaaDoor

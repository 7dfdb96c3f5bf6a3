/- The contract of the reference's Parts: a text's lines, without an empty last one; nothing that was in memory changes. -/
import Derived.Test.YtomiopdmgdidnaaDoorLxB
namespace Go.Proofs.YtomiopdmgdidnaaDoor
open Go.RowKit
attribute [local go_sem] Oper.semAt_some

theorem splitF_none : ∀ a : List UInt8, a.any (· == 10) = false → splitF a = [a]
  | [], _ => rfl
  | c :: a, h => by
    rw [List.any_cons, Bool.or_eq_false_iff] at h
    rw [splitF, if_neg (by rw [h.1]; decide), splitF_none a h.2]
/-- Where the reference stands: what came, and where the line under way began. -/
structure PaR (s : List UInt8) (f i : Nat) (o : List (List UInt8)) : Prop where
  e : splitF s = o ++ splitF (s.drop f)
  a : ((s.drop f).take (i - f)).any (· == 10) = false
  fi : f ≤ i
  le : i ≤ s.length
  few : o.length ≤ f
theorem PaR.start (s : List UInt8) : PaR s 0 0 [] := ⟨rfl, rfl, Nat.le_refl _, Nat.zero_le _, Nat.le_refl _⟩
theorem PaR.mid {s : List UInt8} {f i : Nat} {o : List (List UInt8)} (h : PaR s f i o) : s.drop f = (s.drop f).take (i - f) ++ s.drop i := by
  have := (List.take_append_drop (i - f) (s.drop f)).symm
  rwa [List.drop_drop, show f + (i - f) = i by have := h.fi; omega] at this
theorem PaR.next {s : List UInt8} {f i : Nat} {o : List (List UInt8)} {c : UInt8} (h : PaR s f i o) (hl : i < s.length) (hc : s.getD i 0 = c) (hn : (c == 10) = false) : PaR s f (i + 1) o := by
  refine ⟨h.e, ?_, Nat.le_succ_of_le h.fi, hl, h.few⟩
  have h1 : (s.drop f).take (i + 1 - f) = (s.drop f).take (i - f) ++ [c] := by
    have hf := h.fi
    rw [show i + 1 - f = (i - f) + 1 by omega]
    refine lxtake_at (by rw [List.length_drop]; omega) ?_
    rw [← hc]; simp [List.getD, show f + (i - f) = i by omega]
  rw [h1, List.any_append, h.a]; simpa using hn
theorem PaR.cut {s : List UInt8} {f i : Nat} {o : List (List UInt8)} {p : List UInt8} {c : UInt8} (h : PaR s f i o) (hl : i < s.length) (hc : s.getD i 0 = c) (hn : (c == 10) = true) (hp : (s.drop f).take (i - f) = p) : PaR s (i + 1) (i + 1) (o ++ [p]) := by
  have hm := h.mid
  have ha := h.a
  have hd := lxdrop_at hl hc
  rw [hp] at hm ha
  have c10 : c = 10 := by simpa using hn
  subst c10
  rw [hd] at hm
  refine ⟨?_, by simp, Nat.le_refl _, hl, by have := h.few; have := h.fi; simp; omega⟩
  rw [h.e, hm, splitF_app, splitF_none p ha, List.append_assoc]
theorem PaR.stop {s : List UInt8} {f : Nat} {o : List (List UInt8)} (h : PaR s f s.length o) : (f < s.length → partsL s = o ++ [s.drop f]) ∧ (¬ f < s.length → partsL s = o) := by
  have ha := h.a
  rw [List.take_of_length_le (by rw [List.length_drop]; exact Nat.le_refl _)] at ha
  have he := h.e
  rw [splitF_none _ ha] at he
  refine ⟨fun hf => ?_, fun hf => ?_⟩
  · unfold partsL
    rw [he, if_neg]
    rw [List.getLast?_concat]
    intro e
    injection e with e
    have := congrArg List.length e
    rw [List.length_drop] at this
    simp at this; omega
  · unfold partsL
    rw [he, List.drop_eq_nil_of_le (by omega), List.getLast?_concat, if_pos rfl, List.dropLast_concat]

/-- Texts are what is given back. -/
def PartsR (ps : List (List UInt8)) (w : World) (e : Ending) (w' : World) : Prop := ∃ A n c, e = .returned (.slice A n c) ∧ ps.length = n ∧ n ≤ 1001 ∧ Ws w' A ps ∧ Below w.heap.size w w'

set_option maxHeartbeats 2000000 in
theorem rparts_is (s : List UInt8) (ps : List (List UInt8)) (w : World) (hs : s.length ≤ 1000) (HV : Hid (partsL s = ps)) :
    Calls Tryd.prog 16 #[.string ⟨s.toArray⟩] w (PartsR ps w) := by
  have hz := lxsize s
  go_enter Tryd.func16, Tryd.ntmps16
  go_wp2
  go_loopw [3, 4, 5] (fun vo vf vi wr => ∃ (i f n c : Nat) (o : List (List UInt8)) (A : Option Addr), vo = .slice A n c ∧ vf = .int .i64 f ∧ vi = .int .i64 i ∧ o.length = n ∧ PaR s f i o ∧ wr.ownsRow w.heap.size 9 1 (.slice A n c) n (tcl o) ∧ Below w.heap.size w wr) (fun _ _ vi _ => s.length - (intOf vi).toNat)
  case atStart => exact ⟨0, 0, 0, 0, [], none, rfl, rfl, rfl, rfl, PaR.start s, World.ownsRow_nil _ _ _ _, Below.refl _ _⟩
  case round =>
    obtain ⟨i, f, n, cc, o, A, rfl, rfl, rfl, hn, hP, hO, hBW⟩ := hrel
    have HN := Lib.hid hn
    have HP := Lib.hid hP
    have HO := Lib.hid hO
    have HBW := Lib.hid hBW
    have hnb : n ≤ 1000 := by have := hP.few; have := hP.fi; have := hP.le; omega
    have hile := hP.le
    have hfi := hP.fi
    clear hn hP hO hBW
    by_cases hlt : i < s.length
    · obtain ⟨c, hc⟩ : ∃ c, s.getD i 0 = c := ⟨_, rfl⟩
      have hix := lxbyte_at s i hlt c hc
      have hii : (i : Int) < (s.length : Int) := by omega
      have HC := Lib.hid hc
      clear hc
      cases h10 : c == 10
      · have t10 := byte_ne 10 10 rfl h10
        have HP2 := Lib.hid (HP.out.next hlt HC.out h10)
        go_wp2
        go_roundw
        case rel => exact ⟨i + 1, f, n, cc, o, A, rfl, rfl, by go_num, HN.out, HP2.out, HO.out, HBW.out⟩
        case measure => simp [intOf]; omega
      · have t10 := byte_eq 10 10 rfl h10
        obtain ⟨p, hp⟩ : ∃ p, (s.drop f).take (i - f) = p := ⟨_, rfl⟩
        have hsl := lxsub_run s f i p hp hfi hile
        have HP2 := Lib.hid (HP.out.cut hlt HC.out h10 hp)
        have PU := Lib.hid (PushT.of (W := wr) (w0 := w) 16 21 p (.string ⟨p.toArray⟩) rfl HN.out HO.out HBW.out (by omega))
        clear hp
        go_wp2_with (at_builtin
                     refine PU.out _ _ _ _ _ (by rfl) (by rfl) (by rfl) (by rfl) ?_
                     intro A2 c2 w2 o2 b2
                     have O2 := Lib.hid o2
                     have B2 := Lib.hid b2
                     clear o2 b2)
        go_roundw
        case rel => exact ⟨i + 1, i + 1, n + 1, c2, o ++ [p], A2, rfl, by go_num, by go_num, by rw [List.length_append, HN.out]; rfl, HP2.out, O2.out, B2.out⟩
        case measure => simp [intOf]; omega
    · obtain rfl : i = s.length := by omega
      have hii : ¬ ((s.length : Nat) : Int) < (s.length : Int) := by omega
      have ST := Lib.hid (HP.out.stop)
      by_cases hf : f < s.length
      · have hff : (f : Int) < (s.length : Int) := by omega
        obtain ⟨p, hp⟩ : ∃ p, s.drop f = p := ⟨_, rfl⟩
        have hsl := lxfrom_run s f p hp (by omega)
        have E : Hid (ps = o ++ [p]) := Lib.hid (by rw [← HV.out, ST.out.1 hf, hp])
        have PU := Lib.hid (PushT.of (W := wr) (w0 := w) 29 33 p (.string ⟨p.toArray⟩) rfl HN.out HO.out HBW.out (by omega))
        clear hp hf
        go_wp2_with (at_builtin
                     refine PU.out _ _ _ _ _ (by rfl) (by rfl) (by rfl) (by rfl) ?_
                     intro A2 c2 w2 o2 b2
                     have O2 := Lib.hid o2
                     have B2 := Lib.hid b2
                     clear o2 b2)
        go_ret
        exact ⟨A2, n + 1, c2, rfl, by rw [E.out, List.length_append, HN.out]; rfl, by omega, by rw [E.out]; exact Ws.of_own O2.out, B2.out⟩
      · have hff : ¬ (f : Int) < (s.length : Int) := by omega
        have E : Hid (ps = o) := Lib.hid (by rw [← HV.out, ST.out.2 hf])
        go_wp2
        go_ret
        exact ⟨A, n, cc, rfl, by rw [E.out, HN.out], by omega, by rw [E.out]; exact Ws.of_own HO.out, HBW.out⟩
end Go.Proofs.YtomiopdmgdidnaaDoor

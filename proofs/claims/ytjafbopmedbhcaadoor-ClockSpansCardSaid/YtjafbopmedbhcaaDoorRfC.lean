/- The contract of meridianref03.parts: the pieces of a text between colons; nothing that was in memory changes. -/
import Derived.Test.YtjafbopmedbhcaaDoorPrA
import Derived.Test.YtjafbopmedbhcaaDoorSpn
import Derived.Test.YtjafbopmedbhcaaDoorRfA
import Derived.Laws.DeepStrings4
namespace Go.Proofs.YtjafbopmedbhcaaDoor
open Go.RowKit

theorem string_info : (Tryd.prog.info? 9).map (fun i => (i.zero, i.size, i.bytes)) = some (some (.string ⟨#[]⟩), 1, 16) := by kernel_rfl

def scl (l : List (List UInt8)) : List Value := l.map fun p => .string ⟨p.toArray⟩
theorem scl_app (l m : List (List UInt8)) : scl (l ++ m) = scl l ++ scl m := by simp [scl]
theorem scl_one (l : List (List UInt8)) : ∀ u ∈ scl l, u.oneCell' = true := by
  intro u hu
  obtain ⟨b, _, rfl⟩ := List.mem_map.1 hu
  rfl

/-- One text behind a list of texts that the call made itself. -/
theorem wpList_spush {w : World} {ops : Array Oper} {rest : List Oper} {o : Oper} {a : Act} {Q : Exit → Act → World → Prop} (hgd : o.guard = none) (s x : Operand)
    (ho : o.op = .call { callee := .builtin .append, args := #[s, x], argTypes := #[62, 62] }) {base n m c : Nat} {A : Option Addr} {l : List (List UInt8)} (hn : l.length = n) (hm : n + 1 = m) (X : w.ownsRow base 9 1 (.slice A n c) n (scl l))
    (hs : a.eval s = .slice A n c) (ad : Addr) (p : List UInt8) (hx : a.eval x = .slice (some ad) 1 1) (hb : w.cell? ad = some (.string ⟨p.toArray⟩)) (hl : n ≤ 100000) (hbase : base ≤ w.heap.size)
    (h : ∀ A' c' w', w'.ownsRow base 9 1 (.slice A' m c') m (scl (l ++ [p])) → Below base w w' → wpList Tryd.prog ops Q rest (a.put o.dst (.slice A' m c')) w') : wpList Tryd.prog ops Q (o :: rest) a w := by
  obtain ⟨i0, hi0, hz0, hz1, hz2⟩ := info_parts string_info
  subst hn hm
  refine wpList_append_own_at _ hgd s x _ ho base 9 i0 _ 1 16 Tryd.underlying62 hi0 hz0 hz1 hz2 rfl (by omega) (.slice A l.length c) l.length (scl l) hs X ad 1 1 (scl [p]) hx rfl (by intro j u hu; rcases j with _ | j <;> simp [scl] at hu; subst hu; simpa [Addr.add] using hb) (scl_one _) (by simp only [maxLen]; omega) (by omega) hbase ?_
  intro v' w' hown hg _ _
  obtain ⟨A', c', rfl⟩ := own_form hown
  rw [← scl_app] at hown
  exact h A' c' w' hown ((Below.refl base w).grown hg hbase (fun k hk => (X.lt k hk).1))

theorem sub_run (s : List UInt8) (f i : Nat) (p : List UInt8) (hp : (s.drop f).take (i - f) = p) (h1 : f ≤ i) (h2 : i ≤ s.length) (W : World) :
    (Instr.slice 9 (.string ⟨s.toArray⟩) (some (.int .i64 (f : Int))) (some (.int .i64 (i : Int))) none).run Tryd.prog W = .ok (.string ⟨p.toArray⟩) W := by
  have hs : (⟨s.toArray⟩ : ByteArray).size = s.length := by simp [ByteArray.size]
  rw [run_slice_string_if (h := Tryd.underlying9), if_pos ⟨by omega, by rw [hs]; omega⟩, if_pos ⟨by omega, by omega⟩]
  subst hp
  congr 2
  simp [ByteArray.extract_mk]

theorem drop_at {s : List UInt8} {i : Nat} {c : UInt8} (h : i < s.length) (hc : s.getD i 0 = c) : s.drop i = c :: s.drop (i + 1) := by
  have e : s[i] = c := by simpa [h] using hc
  rw [List.drop_eq_getElem_cons h, e]
theorem cur_at {s : List UInt8} {f i : Nat} {c : UInt8} (hf : f ≤ i) (h : i < s.length) (hc : s.getD i 0 = c) : (s.drop f).take (i + 1 - f) = (s.drop f).take (i - f) ++ [c] := by
  have e : s[i] = c := by simpa [h] using hc
  have h2 : i - f < (s.drop f).length := by rw [List.length_drop]; omega
  rw [show i + 1 - f = (i - f) + 1 by omega, List.take_succ_eq_append_getElem h2]
  congr 2
  rw [List.getElem_drop, ← e]
  congr 1; omega

/-- What is known at the head of the loop: at place i, behind the piece that begins at f, with the pieces l done. -/
def PartsAt (s : List UInt8) (i f : Nat) (l : List (List UInt8)) : Prop := f ≤ i ∧ l.length ≤ i ∧ ((i ≤ s.length ∧ l ++ pcs ((s.drop f).take (i - f)) (s.drop i) = pcs [] s) ∨ (i = s.length + 1 ∧ l = pcs [] s))

theorem parts_next {s : List UInt8} {i f : Nat} {l : List (List UInt8)} {c : UInt8} (h : PartsAt s i f l) (hi : i < s.length) (hc : s.getD i 0 = c) (hne : c ≠ 58) : PartsAt s (i + 1) f l := by
  obtain ⟨h1, h2, h3⟩ := h
  refine ⟨by omega, by omega, .inl ⟨by omega, ?_⟩⟩
  rcases h3 with ⟨_, h3⟩ | ⟨h3, _⟩
  · rw [drop_at hi hc] at h3
    rw [cur_at h1 hi hc]
    have e : pcs ((s.drop f).take (i - f)) (c :: s.drop (i + 1)) = pcs ((s.drop f).take (i - f) ++ [c]) (s.drop (i + 1)) := by
      show (if c = 58 then _ else _) = _
      rw [if_neg hne]
    rw [← e]; exact h3
  · omega
theorem parts_colon {s : List UInt8} {i f : Nat} {l : List (List UInt8)} (h : PartsAt s i f l) (hi : i < s.length) (hc : s.getD i 0 = 58) : PartsAt s (i + 1) (i + 1) (l ++ [(s.drop f).take (i - f)]) := by
  obtain ⟨h1, h2, h3⟩ := h
  refine ⟨by omega, by simp; omega, .inl ⟨by omega, ?_⟩⟩
  rcases h3 with ⟨_, h3⟩ | ⟨h3, _⟩
  · rw [drop_at hi hc] at h3
    rw [Nat.sub_self, List.take_zero, List.append_assoc]
    have e : pcs ((s.drop f).take (i - f)) (58 :: s.drop (i + 1)) = (s.drop f).take (i - f) :: pcs [] (s.drop (i + 1)) := by
      show (if (58 : UInt8) = 58 then _ else _) = _
      rw [if_pos rfl]
    rw [e] at h3; exact h3
  · omega
theorem parts_last {s : List UInt8} {f : Nat} {l : List (List UInt8)} (h : PartsAt s s.length f l) : PartsAt s (s.length + 1) (s.length + 1) (l ++ [(s.drop f).take (s.length - f)]) := by
  obtain ⟨h1, h2, h3⟩ := h
  refine ⟨by omega, by simp; omega, .inr ⟨rfl, ?_⟩⟩
  rcases h3 with ⟨_, h3⟩ | ⟨h3, _⟩
  · rw [List.drop_length] at h3; exact h3
  · omega

/-- The pieces lie in a slice that is new since w. -/
def PartsOut (s : List UInt8) (w : World) (e : Ending) (w' : World) : Prop := ∃ A c, e = .returned (.slice A (pcs [] s).length c) ∧ w'.ownsRow w.heap.size 9 1 (.slice A (pcs [] s).length c) (pcs [] s).length (scl (pcs [] s)) ∧ Below w.heap.size w w'

set_option maxHeartbeats 800000 in
theorem rparts_any (s : List UInt8) (w : World) (hs : s.length ≤ 1000) :
    Calls Tryd.prog 37 #[.string ⟨s.toArray⟩] w (PartsOut s w) := by
  have hz : (⟨s.toArray⟩ : ByteArray).size = s.length := by simp [ByteArray.size]
  go_enter Tryd.func37, Tryd.ntmps37
  go_wp2
  go_loopw [3, 4, 5] (fun vo vf vi w' => ∃ (i f : Nat) (l : List (List UInt8)) (A : Option Addr) (n c : Nat), l.length = n ∧ vo = .slice A n c ∧ vf = .int .i64 f ∧ vi = .int .i64 i ∧ PartsAt s i f l ∧ w'.ownsRow w.heap.size 9 1 (.slice A n c) n (scl l) ∧ Below w.heap.size w w') (fun _ _ vi _ => s.length + 1 - (intOf vi).toNat)
  case atStart => exact ⟨0, 0, [], none, 0, 0, rfl, rfl, rfl, rfl, ⟨by omega, by simp, .inl ⟨by omega, by simp⟩⟩, World.ownsRow_nil _ _ _ _, Below.refl _ _⟩
  case round =>
    obtain ⟨i, f, l, A, n, c, hn, rfl, rfl, rfl, hP, hO, hB⟩ := hrel
    have HP := Lib.hid hP
    have HO := Lib.hid hO
    have HB := Lib.hid hB
    have HN := Lib.hid hn
    have fi := hP.1
    have nb : n ≤ i := by rw [← hn]; exact hP.2.1
    have il : i ≤ s.length + 1 := by rcases hP.2.2 with h | h <;> omega
    clear hP hO hB hn
    rcases Nat.lt_or_ge i s.length with hi | hi
    · obtain ⟨b, hb⟩ : ∃ b, s.getD i 0 = b := ⟨_, rfl⟩
      have hix := byte_run s i hi b hb
      have HBy := Lib.hid hb
      have hii : (i : Int) ≤ (s.length : Int) := by omega
      have hne : ((i : Int) == (s.length : Int)) = false := by simp; omega
      clear hb
      by_cases h58 : b = 58
      · subst h58
        obtain ⟨p, hp⟩ : ∃ p, (s.drop f).take (i - f) = p := ⟨_, rfl⟩
        have hsl := sub_run s f i p hp fi (by omega)
        have HQ : Hid (PartsAt s (i + 1) (i + 1) (l ++ [p])) := Lib.hid (by rw [← hp]; exact parts_colon HP.out hi HBy.out)
        clear hp
        go_wp2_with (at_builtin
                     have HO' : Hid ((wr.alloc (.cells #[.string ⟨p.toArray⟩] 9)).ownsRow w.heap.size 9 1 (.slice A n c) n (scl l)) := Lib.hid (HO.out.kept (grownBy_of_below ((Below.refl _ _).alloc (Nat.le_refl _) _) none) (by cases (Value.slice A n c).ownBlock <;> simp))
                     refine wpList_spush (by rfl) (.tmp 22) (.tmp 27) (by rfl) (m := n + 1) HN.out rfl HO'.out (by rfl) ⟨wr.heap.size, 0, none⟩ p (by rfl) (by simp) (by omega) (by have := HB.out.size; simp; omega) ?_
                     intro A2 c2 w2 o2 b2
                     have O2 := Lib.hid o2
                     have B2 := Lib.hid ((HB.out.alloc HB.out.size (.cells #[.string ⟨p.toArray⟩] 9)).trans b2)
                     clear o2 b2 HO')
        go_roundw
        case rel => exact ⟨i + 1, i + 1, l ++ [p], A2, n + 1, c2, by rw [List.length_append, HN.out]; rfl, rfl, by go_num, by go_num, HQ.out, O2.out, B2.out⟩
        case measure => simp [intOf]; omega
      · have h58' : ((b.toNat : Int) == 58) = false := by
          simp only [beq_eq_false_iff_ne]
          intro e
          exact h58 (UInt8.toNat_inj.1 (by show b.toNat = 58; omega))
        have HQ : Hid (PartsAt s (i + 1) f l) := Lib.hid (parts_next HP.out hi HBy.out h58)
        clear h58
        go_wp2
        go_roundw
        case rel => exact ⟨i + 1, f, l, A, n, c, HN.out, rfl, rfl, by go_num, HQ.out, HO.out, HB.out⟩
        case measure => simp [intOf]; omega
    · rcases Nat.lt_or_ge s.length i with hj | hj
      · obtain rfl : i = s.length + 1 := by omega
        have hlt : (s.length : Int) < ((s.length + 1 : Nat) : Int) := by omega
        have E : l = pcs [] s := by
          rcases HP.out.2.2 with h | h
          · omega
          · exact h.2
        have E2 := HN.out
        clear hi
        go_wp2
        go_ret
        subst E2 E
        exact ⟨A, c, rfl, HO.out, HB.out⟩
      · obtain rfl : i = s.length := by omega
        obtain ⟨p, hp⟩ : ∃ p, (s.drop f).take (s.length - f) = p := ⟨_, rfl⟩
        have hsl := sub_run s f s.length p hp fi (by omega)
        have HQ : Hid (PartsAt s (s.length + 1) (s.length + 1) (l ++ [p])) := Lib.hid (by rw [← hp]; exact parts_last HP.out)
        clear hp hi hj
        go_wp2_with (at_builtin
                     have HO' : Hid ((wr.alloc (.cells #[.string ⟨p.toArray⟩] 9)).ownsRow w.heap.size 9 1 (.slice A n c) n (scl l)) := Lib.hid (HO.out.kept (grownBy_of_below ((Below.refl _ _).alloc (Nat.le_refl _) _) none) (by cases (Value.slice A n c).ownBlock <;> simp))
                     refine wpList_spush (by rfl) (.tmp 22) (.tmp 27) (by rfl) (m := n + 1) HN.out rfl HO'.out (by rfl) ⟨wr.heap.size, 0, none⟩ p (by rfl) (by simp) (by omega) (by have := HB.out.size; simp; omega) ?_
                     intro A2 c2 w2 o2 b2
                     have O2 := Lib.hid o2
                     have B2 := Lib.hid ((HB.out.alloc HB.out.size (.cells #[.string ⟨p.toArray⟩] 9)).trans b2)
                     clear o2 b2 HO')
        go_roundw
        case rel => exact ⟨s.length + 1, s.length + 1, l ++ [p], A2, n + 1, c2, by rw [List.length_append, HN.out]; rfl, rfl, by go_num, by go_num, HQ.out, O2.out, B2.out⟩
        case measure => simp [intOf]
end Go.Proofs.YtjafbopmedbhcaaDoor

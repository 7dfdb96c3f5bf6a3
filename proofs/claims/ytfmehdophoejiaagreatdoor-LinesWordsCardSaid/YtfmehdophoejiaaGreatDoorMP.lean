/- The contracts of meridianlaw03's far and of meridianref03's two, Join, Split and digits: what each call returns; nothing that was in memory changes.
The contract of meridianref03.parts: the pieces of a text between colons; nothing that was in memory changes.
Texts put behind a list of texts that the call made itself; an era whose Until is told in fewer words is that of all four. Written by wip/tools/genlnw.py. -/
import Derived.Test.YtfmehdophoejiaaGreatDoorMI
import Derived.Test.YtfmehdophoejiaaGreatDoorMG
import Derived.Test.YtfmehdophoejiaaGreatDoorMH
import Derived.Laws.DeepStrings4
import Derived.Test.YtfmehdophoejiaaGreatDoorMN
import Derived.Laws.OwnMore
namespace Go.Proofs.YtfmehdophoejiaaGreatDoor
open Go.RowKit

def farB (n : Int) : Bool := decide (604800 ≤ n ∨ n ≤ -604800)
theorem farB_no {n : Int} (h : farB n = false) : -604800 < n ∧ n < 604800 := by
  simp [farB] at h; omega
theorem farB_yes {n : Int} (h : farB n = true) : ¬ (-604800 < n ∧ n < 604800) := by
  simp [farB] at h; omega

theorem td_is (n : Int) : n.tdiv 86400 = if 0 ≤ n ∨ n % 86400 = 0 then n / 86400 else n / 86400 + 1 := by
  rw [Int.tdiv_eq_ediv]
  have : ((86400 : Int) ∣ n) ↔ n % 86400 = 0 := ⟨Int.emod_eq_zero_of_dvd, Int.dvd_of_emod_eq_zero⟩
  simp only [this, show Int.sign 86400 = 1 from rfl]
  split <;> omega

def digV (s : List UInt8) : Int := if s ≠ [] ∧ allDig s = true then (numOf s : Int) else -1
/-- Some number, that of the digits, if they are few. -/
def SomeDig (s : List UInt8) (w : World) (e : Ending) (w' : World) : Prop := ∃ v : Int, (s.length ≤ 9 → v = digV s) ∧ e = .returned (.int .i64 v) ∧ w = w'

theorem byte_run (p : List UInt8) (i : Nat) (h : i < p.length) (c : UInt8) (hc : p.getD i 0 = c) (w : World) : (Instr.index 9 (.string ⟨p.toArray⟩) (.int .i64 (i : Int))).run Tryz.prog w = .ok (.int .u8 (c.toNat : Int)) w := by rw [← hc]; exact byte_at p i h w

theorem digV_bad {p : List UInt8} (h : allDig p = false) : digV p = -1 := by simp [digV, h]
theorem digV_nil : digV [] = -1 := by simp [digV]
theorem digV_ok {p : List UInt8} (h : allDig p = true) (h0 : p ≠ []) : digV p = numOf p := by simp [digV, h, h0]

set_option maxHeartbeats 800000 in
theorem rdig_any (p : List UInt8) (w : World) (hp : p.length ≤ 1000) :
    Calls Tryz.prog 130 #[.string ⟨p.toArray⟩] w (SomeDig p w) := by
  have hs : (⟨p.toArray⟩ : ByteArray).size = p.length := by simp [ByteArray.size]
  go_enter Tryz.func130, Tryz.ntmps130
  go_wp2
  go_loop [3, 4] (fun vn vi => ∃ (i : Nat) (v : Int), vi = .int .i64 i ∧ i ≤ p.length ∧ allDig (p.take i) = true ∧ vn = .int .i64 v ∧ (i ≤ 9 → v = numOf (p.take i))) (fun _ vi => p.length - (intOf vi).toNat)
  case atStart => exact ⟨0, 0, rfl, by omega, by simp [allDig], rfl, by simp [numOf]⟩
  case round =>
    obtain ⟨i, v, rfl, i1, i2, rfl, i3⟩ := hrel
    by_cases hi : i < p.length
    · have hi' : (i : Int) < (p.length : Int) := by omega
      have TN := Lib.hid (take_next p i hi)
      have HC := Lib.hid (allDig_cut hi)
      obtain ⟨c, hc⟩ : ∃ c, p.getD i 0 = c := ⟨_, rfl⟩
      have hix := byte_run p i hi c hc
      rw [hc] at TN HC
      have clt := c.toNat_lt
      clear hc
      have nb := numOf_bd _ i2 i (by rw [List.length_take]; omega)
      have I3 := Lib.hid i3
      have NB := Lib.hid nb
      have I2 := Lib.hid i2
      clear i3 nb i2
      by_cases d1 : c.toNat < 48
      · have d1' : (c.toNat : Int) < 48 := by omega
        go_wp2
        go_ret
        exact ⟨-1, fun _ => (digV_bad (HC.out (by simp [isDig]; omega))).symm, rfl, rfl⟩
      · by_cases d2 : 57 < c.toNat
        · have d1' : ¬ (c.toNat : Int) < 48 := by omega
          have d2' : 57 < (c.toNat : Int) := by omega
          go_wp2
          go_ret
          exact ⟨-1, fun _ => (digV_bad (HC.out (by simp [isDig]; omega))).symm, rfl, rfl⟩
        · have d1' : ¬ (c.toNat : Int) < 48 := by omega
          have d2' : ¬ 57 < (c.toNat : Int) := by omega
          have A1 : Hid (allDig (p.take (i + 1)) = true) := by
            show _ = _
            rw [TN.out, allDig_snoc, I2.out]; simp [isDig]; omega
          by_cases i9 : i < 9
          · have v0 : 0 ≤ v ∧ v < 1000000000 := by
              have e := I3.out (by omega)
              have := NB.out (by omega)
              have : 10 ^ i ≤ 10 ^ 9 := Nat.pow_le_pow_right (by omega) (by omega)
              omega
            go_wp2
            go_round
            case rel => exact ⟨i + 1, _, by go_num, by omega, A1.out, rfl, fun _ => by rw [TN.out, numOf_snoc, I3.out (by omega)]; omega⟩
            case measure => simp [intOf]; omega
          · go_wp2
            go_round
            case rel => exact ⟨i + 1, _, by go_num, by omega, A1.out, rfl, fun h => by omega⟩
            case measure => simp [intOf]; omega
    · have hi' : ¬ (i : Int) < (p.length : Int) := by omega
      obtain rfl : i = p.length := by omega
      rw [List.take_length] at i2 i3
      have I2 := Lib.hid i2
      have I3 := Lib.hid i3
      clear i2 i3
      by_cases h0 : p = []
      · subst h0
        go_wp2
        go_ret
        exact ⟨-1, fun _ => digV_nil.symm, rfl, rfl⟩
      · have H0 := Lib.hid h0
        have hne : p.isEmpty = false := by cases p with | nil => exact absurd rfl h0 | cons _ _ => rfl
        clear h0
        go_wp2
        go_ret
        exact ⟨v, fun h => by rw [digV_ok I2.out H0.out, I3.out h], rfl, rfl⟩
end Go.Proofs.YtfmehdophoejiaaGreatDoor

namespace Go.Proofs.YtfmehdophoejiaaGreatDoor
open Go.RowKit

theorem string_info : (Tryz.prog.info? 9).map (fun i => (i.zero, i.size, i.bytes)) = some (some (.string ⟨#[]⟩), 1, 16) := by kernel_rfl

def scl (l : List (List UInt8)) : List Value := l.map fun p => .string ⟨p.toArray⟩
theorem scl_app (l m : List (List UInt8)) : scl (l ++ m) = scl l ++ scl m := by simp [scl]
theorem scl_one (l : List (List UInt8)) : ∀ u ∈ scl l, u.oneCell' = true := by
  intro u hu
  obtain ⟨b, _, rfl⟩ := List.mem_map.1 hu
  rfl

/-- One text behind a list of texts that the call made itself. -/
theorem wpList_spush {w : World} {ops : Array Oper} {rest : List Oper} {o : Oper} {a : Act} {Q : Exit → Act → World → Prop} (hgd : o.guard = none) (s x : Operand)
    (ho : o.op = .call { callee := .builtin .append, args := #[s, x], argTypes := #[27, 27] }) {base n m c : Nat} {A : Option Addr} {l : List (List UInt8)} (hn : l.length = n) (hm : n + 1 = m) (X : w.ownsRow base 9 1 (.slice A n c) n (scl l))
    (hs : a.eval s = .slice A n c) (ad : Addr) (p : List UInt8) (hx : a.eval x = .slice (some ad) 1 1) (hb : w.cell? ad = some (.string ⟨p.toArray⟩)) (hl : n ≤ 100000) (hbase : base ≤ w.heap.size)
    (h : ∀ A' c' w', w'.ownsRow base 9 1 (.slice A' m c') m (scl (l ++ [p])) → Below base w w' → wpList Tryz.prog ops Q rest (a.put o.dst (.slice A' m c')) w') : wpList Tryz.prog ops Q (o :: rest) a w := by
  obtain ⟨i0, hi0, hz0, hz1, hz2⟩ := info_parts string_info
  subst hn hm
  refine wpList_append_own_at _ hgd s x _ ho base 9 i0 _ 1 16 Tryz.underlying27 hi0 hz0 hz1 hz2 rfl (by omega) (.slice A l.length c) l.length (scl l) hs X ad 1 1 (scl [p]) hx rfl (by intro j u hu; rcases j with _ | j <;> simp [scl] at hu; subst hu; simpa [Addr.add] using hb) (scl_one _) (by simp only [maxLen]; omega) (by omega) hbase ?_
  intro v' w' hown hg _ _
  obtain ⟨A', c', rfl⟩ := own_form hown
  rw [← scl_app] at hown
  exact h A' c' w' hown ((Below.refl base w).grown hg hbase (fun k hk => (X.lt k hk).1))

theorem sub_run (s : List UInt8) (f i : Nat) (p : List UInt8) (hp : (s.drop f).take (i - f) = p) (h1 : f ≤ i) (h2 : i ≤ s.length) (W : World) :
    (Instr.slice 9 (.string ⟨s.toArray⟩) (some (.int .i64 (f : Int))) (some (.int .i64 (i : Int))) none).run Tryz.prog W = .ok (.string ⟨p.toArray⟩) W := by
  have hs : (⟨s.toArray⟩ : ByteArray).size = s.length := by simp [ByteArray.size]
  rw [run_slice_string_if (h := Tryz.underlying9), if_pos ⟨by omega, by rw [hs]; omega⟩, if_pos ⟨by omega, by omega⟩]
  subst hp
  congr 2
  simp [ByteArray.extract_mk]

theorem drop_at {s : List UInt8} {i : Nat} {c : UInt8} (h : i < s.length) (hc : s.getD i 0 = c) : s.drop i = c :: s.drop (i + 1) := by
  have e : s[i] = c := by simpa [h] using hc
  rw [List.drop_eq_getElem_cons h, e]
theorem cur_at {s : List UInt8} {f i : Nat} {c : UInt8} (hf : f ≤ i) (h : i < s.length) (hc : s.getD i 0 = c) : (s.drop f).take (i + 1 - f) = (s.drop f).take (i - f) ++ [c] := by
  have e : s[i] = c := by simpa [h] using hc
  have h2 : i - f < (s.drop f).length := by rw [List.length_drop]; omega
  rw [show i + 1 - f = (i - f) + 1 by omega, List.take_succ_eq_append_getElem h2]
  congr 2
  rw [List.getElem_drop, ← e]
  congr 1; omega

/-- What is known at the head of the loop: at place i, behind the piece that begins at f, with the pieces l done. -/
def PartsAt (s : List UInt8) (i f : Nat) (l : List (List UInt8)) : Prop := f ≤ i ∧ l.length ≤ i ∧ ((i ≤ s.length ∧ l ++ pcs ((s.drop f).take (i - f)) (s.drop i) = pcs [] s) ∨ (i = s.length + 1 ∧ l = pcs [] s))

theorem parts_next {s : List UInt8} {i f : Nat} {l : List (List UInt8)} {c : UInt8} (h : PartsAt s i f l) (hi : i < s.length) (hc : s.getD i 0 = c) (hne : c ≠ 58) : PartsAt s (i + 1) f l := by
  obtain ⟨h1, h2, h3⟩ := h
  refine ⟨by omega, by omega, .inl ⟨by omega, ?_⟩⟩
  rcases h3 with ⟨_, h3⟩ | ⟨h3, _⟩
  · rw [drop_at hi hc] at h3
    rw [cur_at h1 hi hc]
    have e : pcs ((s.drop f).take (i - f)) (c :: s.drop (i + 1)) = pcs ((s.drop f).take (i - f) ++ [c]) (s.drop (i + 1)) := by
      show (if c = 58 then _ else _) = _
      rw [if_neg hne]
    rw [← e]; exact h3
  · omega
theorem parts_colon {s : List UInt8} {i f : Nat} {l : List (List UInt8)} (h : PartsAt s i f l) (hi : i < s.length) (hc : s.getD i 0 = 58) : PartsAt s (i + 1) (i + 1) (l ++ [(s.drop f).take (i - f)]) := by
  obtain ⟨h1, h2, h3⟩ := h
  refine ⟨by omega, by simp; omega, .inl ⟨by omega, ?_⟩⟩
  rcases h3 with ⟨_, h3⟩ | ⟨h3, _⟩
  · rw [drop_at hi hc] at h3
    rw [Nat.sub_self, List.take_zero, List.append_assoc]
    have e : pcs ((s.drop f).take (i - f)) (58 :: s.drop (i + 1)) = (s.drop f).take (i - f) :: pcs [] (s.drop (i + 1)) := by
      show (if (58 : UInt8) = 58 then _ else _) = _
      rw [if_pos rfl]
    rw [e] at h3; exact h3
  · omega
theorem parts_last {s : List UInt8} {f : Nat} {l : List (List UInt8)} (h : PartsAt s s.length f l) : PartsAt s (s.length + 1) (s.length + 1) (l ++ [(s.drop f).take (s.length - f)]) := by
  obtain ⟨h1, h2, h3⟩ := h
  refine ⟨by omega, by simp; omega, .inr ⟨rfl, ?_⟩⟩
  rcases h3 with ⟨_, h3⟩ | ⟨h3, _⟩
  · rw [List.drop_length] at h3; exact h3
  · omega

/-- The pieces lie in a slice that is new since w. -/
def PartsOut (s : List UInt8) (w : World) (e : Ending) (w' : World) : Prop := ∃ A c, e = .returned (.slice A (pcs [] s).length c) ∧ w'.ownsRow w.heap.size 9 1 (.slice A (pcs [] s).length c) (pcs [] s).length (scl (pcs [] s)) ∧ Below w.heap.size w w'

set_option maxHeartbeats 800000 in
theorem rparts_any (s : List UInt8) (w : World) (hs : s.length ≤ 1000) :
    Calls Tryz.prog 129 #[.string ⟨s.toArray⟩] w (PartsOut s w) := by
  have hz : (⟨s.toArray⟩ : ByteArray).size = s.length := by simp [ByteArray.size]
  go_enter Tryz.func129, Tryz.ntmps129
  go_wp2
  go_loopw [3, 4, 5] (fun vo vf vi w' => ∃ (i f : Nat) (l : List (List UInt8)) (A : Option Addr) (n c : Nat), l.length = n ∧ vo = .slice A n c ∧ vf = .int .i64 f ∧ vi = .int .i64 i ∧ PartsAt s i f l ∧ w'.ownsRow w.heap.size 9 1 (.slice A n c) n (scl l) ∧ Below w.heap.size w w') (fun _ _ vi _ => s.length + 1 - (intOf vi).toNat)
  case atStart => exact ⟨0, 0, [], none, 0, 0, rfl, rfl, rfl, rfl, ⟨by omega, by simp, .inl ⟨by omega, by simp⟩⟩, World.ownsRow_nil _ _ _ _, Below.refl _ _⟩
  case round =>
    obtain ⟨i, f, l, A, n, c, hn, rfl, rfl, rfl, hP, hO, hB⟩ := hrel
    have HP := Lib.hid hP
    have HO := Lib.hid hO
    have HB := Lib.hid hB
    have HN := Lib.hid hn
    have fi := hP.1
    have nb : n ≤ i := by rw [← hn]; exact hP.2.1
    have il : i ≤ s.length + 1 := by rcases hP.2.2 with h | h <;> omega
    clear hP hO hB hn
    rcases Nat.lt_or_ge i s.length with hi | hi
    · obtain ⟨b, hb⟩ : ∃ b, s.getD i 0 = b := ⟨_, rfl⟩
      have hix := byte_run s i hi b hb
      have HBy := Lib.hid hb
      have hii : (i : Int) ≤ (s.length : Int) := by omega
      have hne : ((i : Int) == (s.length : Int)) = false := by simp; omega
      clear hb
      by_cases h58 : b = 58
      · subst h58
        obtain ⟨p, hp⟩ : ∃ p, (s.drop f).take (i - f) = p := ⟨_, rfl⟩
        have hsl := sub_run s f i p hp fi (by omega)
        have HQ : Hid (PartsAt s (i + 1) (i + 1) (l ++ [p])) := Lib.hid (by rw [← hp]; exact parts_colon HP.out hi HBy.out)
        clear hp
        go_wp2_with (at_builtin
                     have HO' : Hid ((wr.alloc (.cells #[.string ⟨p.toArray⟩] 9)).ownsRow w.heap.size 9 1 (.slice A n c) n (scl l)) := Lib.hid (HO.out.kept (grownBy_of_below ((Below.refl _ _).alloc (Nat.le_refl _) _) none) (by cases (Value.slice A n c).ownBlock <;> simp))
                     refine wpList_spush (by rfl) (.tmp 22) (.tmp 27) (by rfl) (m := n + 1) HN.out rfl HO'.out (by rfl) ⟨wr.heap.size, 0, none⟩ p (by rfl) (by simp) (by omega) (by have := HB.out.size; simp; omega) ?_
                     intro A2 c2 w2 o2 b2
                     have O2 := Lib.hid o2
                     have B2 := Lib.hid ((HB.out.alloc HB.out.size (.cells #[.string ⟨p.toArray⟩] 9)).trans b2)
                     clear o2 b2 HO')
        go_roundw
        case rel => exact ⟨i + 1, i + 1, l ++ [p], A2, n + 1, c2, by rw [List.length_append, HN.out]; rfl, rfl, by go_num, by go_num, HQ.out, O2.out, B2.out⟩
        case measure => simp [intOf]; omega
      · have h58' : ((b.toNat : Int) == 58) = false := by
          simp only [beq_eq_false_iff_ne]
          intro e
          exact h58 (UInt8.toNat_inj.1 (by show b.toNat = 58; omega))
        have HQ : Hid (PartsAt s (i + 1) f l) := Lib.hid (parts_next HP.out hi HBy.out h58)
        clear h58
        go_wp2
        go_roundw
        case rel => exact ⟨i + 1, f, l, A, n, c, HN.out, rfl, rfl, by go_num, HQ.out, HO.out, HB.out⟩
        case measure => simp [intOf]; omega
    · rcases Nat.lt_or_ge s.length i with hj | hj
      · obtain rfl : i = s.length + 1 := by omega
        have hlt : (s.length : Int) < ((s.length + 1 : Nat) : Int) := by omega
        have E : l = pcs [] s := by
          rcases HP.out.2.2 with h | h
          · omega
          · exact h.2
        have E2 := HN.out
        clear hi
        go_wp2
        go_ret
        subst E2 E
        exact ⟨A, c, rfl, HO.out, HB.out⟩
      · obtain rfl : i = s.length := by omega
        obtain ⟨p, hp⟩ : ∃ p, (s.drop f).take (s.length - f) = p := ⟨_, rfl⟩
        have hsl := sub_run s f s.length p hp fi (by omega)
        have HQ : Hid (PartsAt s (s.length + 1) (s.length + 1) (l ++ [p])) := Lib.hid (by rw [← hp]; exact parts_last HP.out)
        clear hp hi hj
        go_wp2_with (at_builtin
                     have HO' : Hid ((wr.alloc (.cells #[.string ⟨p.toArray⟩] 9)).ownsRow w.heap.size 9 1 (.slice A n c) n (scl l)) := Lib.hid (HO.out.kept (grownBy_of_below ((Below.refl _ _).alloc (Nat.le_refl _) _) none) (by cases (Value.slice A n c).ownBlock <;> simp))
                     refine wpList_spush (by rfl) (.tmp 22) (.tmp 27) (by rfl) (m := n + 1) HN.out rfl HO'.out (by rfl) ⟨wr.heap.size, 0, none⟩ p (by rfl) (by simp) (by omega) (by have := HB.out.size; simp; omega) ?_
                     intro A2 c2 w2 o2 b2
                     have O2 := Lib.hid o2
                     have B2 := Lib.hid ((HB.out.alloc HB.out.size (.cells #[.string ⟨p.toArray⟩] 9)).trans b2)
                     clear o2 b2 HO')
        go_roundw
        case rel => exact ⟨s.length + 1, s.length + 1, l ++ [p], A2, n + 1, c2, by rw [List.length_append, HN.out]; rfl, rfl, by go_num, by go_num, HQ.out, O2.out, B2.out⟩
        case measure => simp [intOf]
end Go.Proofs.YtfmehdophoejiaaGreatDoor

namespace Go.Proofs.YtfmehdophoejiaaGreatDoor
open Go Go.RowKit

/-- Texts behind a list of texts that the call made itself. -/
theorem wpList_sapp {w : World} {ops : Array Oper} {rest : List Oper} {o : Oper} {a : Act} {Q : Exit → Act → World → Prop} (hgd : o.guard = none) (s x : Operand)
    (ho : o.op = .call { callee := .builtin .append, args := #[s, x], argTypes := #[27, 27] }) {base n k m c c2 : Nat} {A : Option Addr} {l ys : List (List UInt8)} (hk : ys.length = k) (hm : n + k = m) (X : w.ownsRow base 9 1 (.slice A n c) n (scl l))
    (hs : a.eval s = .slice A n c) (ad : Addr) (hx : a.eval x = .slice (some ad) k c2) (hb : ∀ j p, ys[j]? = some p → w.cell? (ad.add j) = some (.string ⟨p.toArray⟩)) (hl : m ≤ 100000) (hbase : base ≤ w.heap.size)
    (h : ∀ A' c' w', w'.ownsRow base 9 1 (.slice A' m c') m (scl (l ++ ys)) → Below base w w' → wpList Tryz.prog ops Q rest (a.put o.dst (.slice A' m c')) w') : wpList Tryz.prog ops Q (o :: rest) a w := by
  obtain ⟨i0, hi0, hz0, hz1, hz2⟩ := info_parts string_info
  subst hk hm
  refine wpList_append_own_at _ hgd s x _ ho base 9 i0 _ 1 16 Tryz.underlying27 hi0 hz0 hz1 hz2 rfl (by omega) (.slice A n c) n (scl l) hs X ad ys.length c2 (scl ys) hx (by simp [scl]) (by
      intro j u hu
      obtain ⟨p, hp, rfl⟩ : ∃ p, ys[j]? = some p ∧ Value.string ⟨p.toArray⟩ = u := by simpa [scl] using hu
      exact hb j p hp) (scl_one _) (by simp only [maxLen]; omega) (by omega) hbase ?_
  intro v' w' hown hg _ _
  obtain ⟨A', c', rfl⟩ := own_form hown
  rw [← scl_app] at hown
  exact h A' c' w' hown ((Below.refl base w).grown hg hbase (fun k hk => (X.lt k hk).1))
/-- A list that the call made, as an argument. -/
theorem own_arg {W : World} {base n c : Nat} {A : Option Addr} {l : List (List UInt8)} (h : W.ownsRow base 9 1 (.slice A n c) n (scl l)) : l.length = n ∧ n ≤ c ∧ ArgW A l W := by
  have hn : l.length = n := by have := h.1; simpa [scl] using this
  rcases h.2 with ⟨e, h0⟩ | ⟨g, cap, cur, e, _, hr, hc, _, hs, ht⟩
  · injection e with e1 e2 e3
    subst e1 e2 e3
    refine ⟨hn, Nat.le_refl _, fun i p hp => ?_⟩
    have := (List.getElem?_eq_some_iff.1 hp).1
    omega
  · injection e with e1 e2 e3
    subst e1 e3
    refine ⟨hn, hc, fun i p hp => ⟨g, 0, rfl, ?_⟩⟩
    have hi := (List.getElem?_eq_some_iff.1 hp).1
    have h1 : (scl l)[i]? = some (.string ⟨p.toArray⟩) := by simp [scl, hp]
    rw [← ht, List.getElem?_take_of_lt (by omega)] at h1
    rw [Nat.zero_add, cell_of_row W g i _ _ (0, 0) hr, ← Array.getElem?_toList]
    exact h1
theorem BlkN.nextB {w W W' : World} {g B : Nat} {C : Array Value} {t : TypeId} (h : BlkN w g C t W) (k : Below B W W') (hg : g < B) (hB : w.heap.size ≤ B) (_ : B ≤ W.heap.size) : BlkN w g C t W' :=
  ⟨h.bel.trans (k.mono hB), h.ge, (k.block g hg).trans h.blk⟩

def janL : List UInt8 := [74, 97, 110]
def oneL : List UInt8 := [49]
def oclL : List UInt8 := [48, 58, 48, 48]
theorem jan_is : moE janL = 0 ∧ moV janL = 1 := by decide +kernel
theorem one_is : dyE oneL = 0 ∧ dyK oneL = 0 ∧ dyW oneL = 0 ∧ dyN oneL = 1 := by decide +kernel
theorem ocl_is : parE oclL = 0 ∧ parN oclL = 0 ∧ parK oclL = 0 := by decide +kernel
theorem first_same {xs ys : List Int} (h : ∀ e ∈ ys, e = 0) : first (xs ++ ys) = first xs := by
  induction xs with
  | nil => exact first_all h
  | cons e r ih => show (if e = 0 then first (r ++ ys) else e) = (if e = 0 then first r else e); rw [ih]
theorem short_of {ws full : List (List UInt8)} (hx : erX full = erX ws) (hv : erV full = erV ws) : erX full = erX ws ∧ erS full = erS ws := by
  refine ⟨hx, ?_⟩
  unfold erS; rw [hx, hv]
theorem zeros3 {a b c : Int} (ha : a = 0) (hb : b = 0) (hc : c = 0) : ∀ e ∈ [a, b, c], e = 0 := by simp [ha, hb, hc]
theorem zeros2 {b c : Int} (hb : b = 0) (hc : c = 0) : ∀ e ∈ [b, c], e = 0 := by simp [hb, hc]
theorem zeros1 {c : Int} (hc : c = 0) : ∀ e ∈ [c], e = 0 := by simp [hc]
theorem erX_of {ws : List (List UInt8)} {es : List Int} (h : 3 ≤ ws.length ∧ ws.length ≤ 7) (he : erE ws = es) : erX ws = first es := by
  unfold erX; rw [if_pos h, he]
theorem short4 {ws : List (List UInt8)} (h : ws.length = 4) : erX (ws ++ [janL] ++ [oneL] ++ [oclL]) = erX ws ∧ erS (ws ++ [janL] ++ [oneL] ++ [oclL]) = erS ws := by
  obtain ⟨a, b, c, d, rfl⟩ : ∃ a b c d, ws = [a, b, c, d] := by
    match ws, h with
    | [a, b, c, d], _ => exact ⟨a, b, c, d, rfl⟩
  refine short_of ?_ ?_
  · rw [erX_of (es := [ofE a, ruE b, fmE c, yrE d] ++ [moE janL, dyE oneL, parE oclL]) (by simp) rfl, erX_of (es := [ofE a, ruE b, fmE c, yrE d]) (by simp) rfl]
    exact first_same (zeros3 jan_is.1 one_is.1 ocl_is.1)
  · rw [erV_long (vs := [a, b, c, d] ++ [janL] ++ [oneL] ++ [oclL]) (by simp)]
    have w0 : wd ([a, b, c, d] ++ [janL] ++ [oneL] ++ [oclL]) 0 = a := rfl
    have w1 : wd ([a, b, c, d] ++ [janL] ++ [oneL] ++ [oclL]) 1 = b := rfl
    have w2 : wd ([a, b, c, d] ++ [janL] ++ [oneL] ++ [oclL]) 2 = c := rfl
    have w3 : wd ([a, b, c, d] ++ [janL] ++ [oneL] ++ [oclL]) 3 = d := rfl
    have w4 : wd ([a, b, c, d] ++ [janL] ++ [oneL] ++ [oclL]) 4 = janL := rfl
    have w5 : wd ([a, b, c, d] ++ [janL] ++ [oneL] ++ [oclL]) 5 = oneL := rfl
    have w6 : wd ([a, b, c, d] ++ [janL] ++ [oneL] ++ [oclL]) 6 = oclL := rfl
    rw [w0, w1, w2, w3, w4, w5, w6]
    rw [jan_is.2, one_is.2.1, one_is.2.2.1, one_is.2.2.2, ocl_is.2.1, ocl_is.2.2]
    rfl
theorem short5 {ws : List (List UInt8)} (h : ws.length = 5) : erX (ws ++ [oneL] ++ [oclL]) = erX ws ∧ erS (ws ++ [oneL] ++ [oclL]) = erS ws := by
  obtain ⟨a, b, c, d, e, rfl⟩ : ∃ a b c d e, ws = [a, b, c, d, e] := by
    match ws, h with
    | [a, b, c, d, e], _ => exact ⟨a, b, c, d, e, rfl⟩
  refine short_of ?_ ?_
  · rw [erX_of (es := [ofE a, ruE b, fmE c, yrE d, moE e] ++ [dyE oneL, parE oclL]) (by simp) rfl, erX_of (es := [ofE a, ruE b, fmE c, yrE d, moE e]) (by simp) rfl]
    exact first_same (zeros2 one_is.1 ocl_is.1)
  · rw [erV_long (vs := [a, b, c, d, e] ++ [oneL] ++ [oclL]) (by simp)]
    have w0 : wd ([a, b, c, d, e] ++ [oneL] ++ [oclL]) 0 = a := rfl
    have w1 : wd ([a, b, c, d, e] ++ [oneL] ++ [oclL]) 1 = b := rfl
    have w2 : wd ([a, b, c, d, e] ++ [oneL] ++ [oclL]) 2 = c := rfl
    have w3 : wd ([a, b, c, d, e] ++ [oneL] ++ [oclL]) 3 = d := rfl
    have w4 : wd ([a, b, c, d, e] ++ [oneL] ++ [oclL]) 4 = e := rfl
    have w5 : wd ([a, b, c, d, e] ++ [oneL] ++ [oclL]) 5 = oneL := rfl
    have w6 : wd ([a, b, c, d, e] ++ [oneL] ++ [oclL]) 6 = oclL := rfl
    rw [w0, w1, w2, w3, w4, w5, w6]
    rw [one_is.2.1, one_is.2.2.1, one_is.2.2.2, ocl_is.2.1, ocl_is.2.2]
    rfl
theorem short6 {ws : List (List UInt8)} (h : ws.length = 6) : erX (ws ++ [oclL]) = erX ws ∧ erS (ws ++ [oclL]) = erS ws := by
  obtain ⟨a, b, c, d, e, f, rfl⟩ : ∃ a b c d e f, ws = [a, b, c, d, e, f] := by
    match ws, h with
    | [a, b, c, d, e, f], _ => exact ⟨a, b, c, d, e, f, rfl⟩
  refine short_of ?_ ?_
  · rw [erX_of (es := [ofE a, ruE b, fmE c, yrE d, moE e, dyE f] ++ [parE oclL]) (by simp) rfl, erX_of (es := [ofE a, ruE b, fmE c, yrE d, moE e, dyE f]) (by simp) rfl]
    exact first_same (zeros1 ocl_is.1)
  · rw [erV_long (vs := [a, b, c, d, e, f] ++ [oclL]) (by simp)]
    have w0 : wd ([a, b, c, d, e, f] ++ [oclL]) 0 = a := rfl
    have w1 : wd ([a, b, c, d, e, f] ++ [oclL]) 1 = b := rfl
    have w2 : wd ([a, b, c, d, e, f] ++ [oclL]) 2 = c := rfl
    have w3 : wd ([a, b, c, d, e, f] ++ [oclL]) 3 = d := rfl
    have w4 : wd ([a, b, c, d, e, f] ++ [oclL]) 4 = e := rfl
    have w5 : wd ([a, b, c, d, e, f] ++ [oclL]) 5 = f := rfl
    have w6 : wd ([a, b, c, d, e, f] ++ [oclL]) 6 = oclL := rfl
    rw [w0, w1, w2, w3, w4, w5, w6]
    rw [ocl_is.2.1, ocl_is.2.2]
    rfl
end Go.Proofs.YtfmehdophoejiaaGreatDoor

/- The contracts of the reference's lists, small and Find, of words.small, and of the law's word: what each call returns; nothing that was in memory changes.
The contracts of strings.Map at words.small, and of words.meant: the word in small letters, and a function that goes through the places that it is short for; nothing that was in memory changes. The tables of unicode/utf8 read as they are laid.
The contract of the reference's Find: which word of a list a word is; nothing that was in memory changes.
The contract of words.meant's closure: it hands the places of the words that a word is short for to whatever loop it is ranged over by.
The contract of words.find: the place of the word of a list that a word is, or that it is none, or several; nothing that was in memory changes. The tables of unicode/utf8 read as they are laid. -/
import Derived.Test.YtfmehdophoejiaaGreatDoorMB
import Derived.Test.YtfmehdophoejiaaGreatDoorShelf
import Derived.RangeFuncNested
import Derived.RangeFuncBound
import Derived.RangeFuncCalls
import Derived.RangeFuncLeaves
import Derived.Shelf.Abstract
import Derived.OwnWalkIn
import Derived.TacticsInMore
import Derived.LoopNIn
import Derived.LoopIn
import Derived.WalkMore
namespace Go.Proofs.YtfmehdophoejiaaGreatDoor
open Go.RowKit

theorem small_any (r : Int) (w : World) (h1 : 0 ≤ r) (h2 : r ≤ 1114111) :
    Calls Tryz.prog 141 #[.int .i32 r] w fun e w' => e = .returned (.int .i32 (smallZ r)) ∧ w = w' := by
  by_cases a : 65 ≤ r
  · by_cases b : r ≤ 90
    · have e : smallZ r = r + 32 := if_pos ⟨a, b⟩
      rw [e]
      go_enter Tryz.func141, Tryz.ntmps141
      go_wp2
      go_ret
      exact ⟨rfl, rfl⟩
    · have e : smallZ r = r := if_neg (by omega)
      rw [e]
      go_enter Tryz.func141, Tryz.ntmps141
      go_wp2
      go_ret
      exact ⟨rfl, rfl⟩
  · have e : smallZ r = r := if_neg (by omega)
    rw [e]
    go_enter Tryz.func141, Tryz.ntmps141
    go_wp2
    go_ret
    exact ⟨rfl, rfl⟩

/-- The place that the reference names. -/
def wantZ (o : Option Nat) : Int := match o with | some p => (p : Int) | none => -1

def kindsL : List (List UInt8) := [[114, 117, 108, 101], [122, 111, 110, 101], [108, 105, 110, 107]]
def monthsL : List (List UInt8) := [[106, 97, 110, 117, 97, 114, 121], [102, 101, 98, 114, 117, 97, 114, 121], [109, 97, 114, 99, 104], [97, 112, 114, 105, 108], [109, 97, 121], [106, 117, 110, 101], [106, 117, 108, 121], [97, 117, 103, 117, 115, 116], [115, 101, 112, 116, 101, 109, 98, 101, 114], [111, 99, 116, 111, 98, 101, 114], [110, 111, 118, 101, 109, 98, 101, 114], [100, 101, 99, 101, 109, 98, 101, 114]]
def weeksL : List (List UInt8) := [[115, 117, 110, 100, 97, 121], [109, 111, 110, 100, 97, 121], [116, 117, 101, 115, 100, 97, 121], [119, 101, 100, 110, 101, 115, 100, 97, 121], [116, 104, 117, 114, 115, 100, 97, 121], [102, 114, 105, 100, 97, 121], [115, 97, 116, 117, 114, 100, 97, 121]]
def endsL : List (List UInt8) := [[111, 110, 108, 121], [109, 97, 120, 105, 109, 117, 109]]

/-- A list that the call has made. -/
def MadeList (ws : List (List UInt8)) (n : Nat) (w : World) (e : Ending) (w' : World) : Prop := ∃ L : Nat, e = .returned (.slice (some ⟨L, 0, none⟩) n n) ∧ w.heap.size ≤ L ∧ ListAt L ws w' ∧ Below w.heap.size w w'

theorem rkinds_any (w : World) : Calls Tryz.prog 97 #[] w (MadeList kindsL 3 w) := by
  go_enter Tryz.func97, Tryz.ntmps97
  go_wp2
  go_ret
  exact ⟨_, rfl, Nat.le_refl _, ListAt.new w kindsL _ _ rfl, (Below.refl _ _).alloc (Nat.le_refl _) _⟩
theorem rmonths_any (w : World) : Calls Tryz.prog 63 #[] w (MadeList monthsL 12 w) := by
  go_enter Tryz.func63, Tryz.ntmps63
  go_wp2
  go_ret
  exact ⟨_, rfl, Nat.le_refl _, ListAt.new w monthsL _ _ rfl, (Below.refl _ _).alloc (Nat.le_refl _) _⟩
theorem rweeks_any (w : World) : Calls Tryz.prog 100 #[] w (MadeList weeksL 7 w) := by
  go_enter Tryz.func100, Tryz.ntmps100
  go_wp2
  go_ret
  exact ⟨_, rfl, Nat.le_refl _, ListAt.new w weeksL _ _ rfl, (Below.refl _ _).alloc (Nat.le_refl _) _⟩

theorem low_snoc (l : List UInt8) (c : UInt8) : low (l ++ [c]) = low l ++ [lowB c] := by simp [low]
theorem low_len (l : List UInt8) : (low l).length = l.length := by simp [low]
theorem take_snoc {p : List UInt8} {i : Nat} {c : UInt8} (h : i < p.length) (hc : p.getD i 0 = c) : p.take (i + 1) = p.take i ++ [c] := by
  rw [List.take_succ_eq_append_getElem h]
  congr 2
  simpa [h] using hc

set_option maxHeartbeats 800000 in
theorem rsmall_any (s : List UInt8) (w : World) (hs : s.length ≤ 100) :
    Calls Tryz.prog 99 #[.string ⟨s.toArray⟩] w fun e w' => e = .returned (.string ⟨(low s).toArray⟩) ∧ Below w.heap.size w w' := by
  have hz := wsize s
  go_enter Tryz.func99, Tryz.ntmps99
  go_wp2
  go_loopw [3, 4] (fun vo vi w' => ∃ (i : Nat) (x : List UInt8), vi = .int .i64 i ∧ i ≤ s.length ∧ low (s.take i) = x ∧ vo = .string ⟨x.toArray⟩ ∧ Below w.heap.size w w') (fun _ vi _ => s.length - (intOf vi).toNat)
  case atStart => exact ⟨0, [], rfl, by omega, rfl, rfl, Below.refl _ _⟩
  case round =>
    obtain ⟨i, x, rfl, i1, i2, rfl, kb⟩ := hrel
    have KB := Lib.hid kb
    have HX := Lib.hid i2
    have hxl : x.length ≤ 1000 := by rw [← i2, low_len, List.length_take]; omega
    clear kb i2
    by_cases hi : i < s.length
    · obtain ⟨c, hc⟩ : ∃ c, s.getD i 0 = c := ⟨_, rfl⟩
      have hix := wbyte_at s i hi c hc
      have TN : Hid (low (s.take (i + 1)) = x ++ [lowB c]) := Lib.hid (by rw [take_snoc hi hc, low_snoc, HX.out])
      have clt := c.toNat_lt
      have hi' : (i : Int) < (s.length : Int) := by omega
      have had := wadd_lists x [lowB c] hxl (by simp)
      have hcv := wone_byte wr (lowB c)
      have hlb := lowB_toNat c
      clear hc i1
      by_cases a : 65 ≤ c.toNat
      · have a' : 65 ≤ (c.toNat : Int) := by omega
        by_cases b : c.toNat ≤ 90
        · have b' : (c.toNat : Int) ≤ 90 := by omega
          rw [if_pos ⟨a, b⟩] at hlb
          have hlb' : ((lowB c).toNat : Int) = (c.toNat : Int) + 97 - 65 := by omega
          rw [hlb'] at hcv
          clear hlb hlb'
          go_wp2
          go_roundw
          case rel => exact ⟨i + 1, _, by go_num, by omega, TN.out, rfl, KB.out.alloc KB.out.size _⟩
          case measure => simp [intOf]; omega
        · have b' : ¬ (c.toNat : Int) ≤ 90 := by omega
          rw [if_neg (by omega)] at hlb
          rw [hlb] at hcv
          clear hlb
          go_wp2
          go_roundw
          case rel => exact ⟨i + 1, _, by go_num, by omega, TN.out, rfl, KB.out.alloc KB.out.size _⟩
          case measure => simp [intOf]; omega
      · have a' : ¬ 65 ≤ (c.toNat : Int) := by omega
        rw [if_neg (by omega)] at hlb
        rw [hlb] at hcv
        clear hlb
        go_wp2
        go_roundw
        case rel => exact ⟨i + 1, _, by go_num, by omega, TN.out, rfl, KB.out.alloc KB.out.size _⟩
        case measure => simp [intOf]; omega
    · obtain rfl : i = s.length := by omega
      have hi' : ¬ ((s.length : Nat) : Int) < (s.length : Int) := by omega
      go_wp2
      go_ret
      rw [← HX.out, List.take_length]
      exact ⟨rfl, KB.out⟩
end Go.Proofs.YtfmehdophoejiaaGreatDoor

namespace Go.Proofs.YtfmehdophoejiaaGreatDoor
open Go.RowKit Go.Shelf
attribute [local go_sem] Oper.semAt_some

def U8At (w : World) : Prop := Lib.Utf8Tabs 8 9 w
theorem U8At.next {w w' : World} (h : U8At w) (k : Below w.heap.size w w') : U8At w' := Utf8Tabs_below h k

theorem map_any (s : List UInt8) (w : World) (hs : s.length ≤ 1000) (hT : U8At w) :
    Calls Tryz.prog 140 #[.func (.func 141) #[] #[], .string ⟨s.toArray⟩] w fun e w' => e = .returned (.string ⟨(Lib.mapD smallZ s).toArray⟩) ∧ Below w.heap.size w w' :=
  Tryz.strings_Map_runes 141 #[] (enters_of Tryz.func141 (by kernel_rfl) rfl) smallZ ⟨s.toArray⟩ w (by rw [wsize]; omega)
    (fun W x hx hb => (small_any (x : Int) W (by omega) (by omega)).mono fun e w' ⟨h1, h2⟩ => ⟨h1, 0, h2.symm⟩) smallZ_bd hT

/-- The function that meant answers: it knows the list, and the word in small letters. -/
def Meant (b : List UInt8) (v : Value) (w : World) (e : Ending) (w' : World) : Prop := ∃ Bl Bw : Nat, e = .returned (.func (.func 142) #[] #[.pointer (some ⟨Bl, 0, none⟩), .pointer (some ⟨Bw, 0, none⟩)]) ∧
  w.heap.size ≤ Bl ∧ w.heap.size ≤ Bw ∧ w'.cell? ⟨Bl, 0, none⟩ = some v ∧ w'.cell? ⟨Bw, 0, none⟩ = some (.string ⟨b.toArray⟩) ∧ Below w.heap.size w w'

theorem meant_any (s : List UInt8) (L n : Nat) (w : World) (hs : s.length ≤ 1000) (hT : U8At w) :
    Calls Tryz.prog 121 #[.string ⟨s.toArray⟩, .slice (some ⟨L, 0, none⟩) n n] w (Meant (Lib.mapD smallZ s) (.slice (some ⟨L, 0, none⟩) n n) w) := by
  have hmf : ∀ (fn : Fn) (first cap : Array Value) (w : World), (Instr.makeFunc fn first cap).run Tryz.prog w = .ok (.func fn first cap) w := fun _ _ _ _ => rfl
  have HT := Lib.hid (hT.next ((Below.refl _ w).alloc (Nat.le_refl _) (.cells #[.slice (some ⟨L, 0, none⟩) n n] 27)))
  clear hT
  obtain ⟨b, hb⟩ : ∃ b, Lib.mapD smallZ s = b := ⟨_, rfl⟩
  have MP : Hid (∀ W : World, U8At W → Calls Tryz.prog 140 #[.func (.func 141) #[] #[], .string ⟨s.toArray⟩] W fun e w' => e = .returned (.string ⟨b.toArray⟩) ∧ Below W.heap.size W w') := Lib.hid fun W h => hb ▸ map_any s W hs h
  rw [hb]
  clear hb
  go_enter Tryz.func121, Tryz.ntmps121
  go_wp2_with (first
    | (go_at_call 140; refine (MP.out _ HT.out).mono ?_; rintro e w1 ⟨rfl, k1⟩))
  go_ret
  have k0 : Below w.heap.size w (w.alloc (.cells #[.slice (some ⟨L, 0, none⟩) n n] 27)) := (Below.refl _ w).alloc (Nat.le_refl _) _
  have hs1 := k1.size
  simp only [World.size_alloc] at hs1
  refine ⟨_, _, rfl, Nat.le_refl _, by omega, ?_, by simp, (k0.trans (k1.mono (by simp))).alloc (by omega) _⟩
  have k2 := ((Below.refl w1.heap.size w1).alloc (Nat.le_refl _) (.cells #[.string ⟨b.toArray⟩] 9))
  rw [k2.cell (p := ⟨_, _, none⟩) (by show w.heap.size < w1.heap.size; omega), k1.cell (p := ⟨_, _, none⟩) (by show w.heap.size < _; simp)]
  simp
end Go.Proofs.YtfmehdophoejiaaGreatDoor

namespace Go.Proofs.YtfmehdophoejiaaGreatDoor
open Go.RowKit

/-- What is known at the head of the loop: many words before place i are meant, the last of them at 'found'. -/
structure FindAt (b : List UInt8) (ws : List (List UInt8)) (i many : Nat) (at' : Int) : Prop where
  le : i ≤ ws.length
  my : many ≤ i
  ex : ∃ found : Nat, (1 ≤ many → at' = (found : Int)) ∧ scan b (ws.drop i) i many found = findL b ws
theorem wdrop_at {ws : List (List UInt8)} {i : Nat} {p : List UInt8} (hp : ws[i]? = some p) : ws.drop i = p :: ws.drop (i + 1) := by
  obtain ⟨h, e⟩ := List.getElem?_eq_some_iff.1 hp
  rw [List.drop_eq_getElem_cons h, e]
theorem find_same {b p : List UInt8} {ws : List (List UInt8)} {i many : Nat} {a : Int} (h : FindAt b ws i many a) (hp : ws[i]? = some p) (he : p = b) : findL b ws = some i := by
  obtain ⟨_, _, f, _, h⟩ := h
  rw [wdrop_at hp] at h
  rw [← h]; unfold scan; rw [if_pos he]
theorem find_more {b p : List UInt8} {ws : List (List UInt8)} {i many : Nat} {a : Int} (h : FindAt b ws i many a) (hp : ws[i]? = some p) (he : p ≠ b) (hb : begins b p = true) : FindAt b ws (i + 1) (many + 1) i := by
  obtain ⟨h1, h2, f, h3, h⟩ := h
  have hi := (List.getElem?_eq_some_iff.1 hp).1
  refine ⟨hi, by omega, i, fun _ => rfl, ?_⟩
  rw [wdrop_at hp] at h
  rw [← h]; conv => rhs; unfold scan
  rw [if_neg he, if_pos hb]
theorem find_on {b p : List UInt8} {ws : List (List UInt8)} {i many : Nat} {a : Int} (h : FindAt b ws i many a) (hp : ws[i]? = some p) (he : p ≠ b) (hb : begins b p = false) : FindAt b ws (i + 1) many a := by
  obtain ⟨h1, h2, f, h3, h⟩ := h
  have hi := (List.getElem?_eq_some_iff.1 hp).1
  refine ⟨hi, by omega, f, h3, ?_⟩
  rw [wdrop_at hp] at h
  rw [← h]; conv => rhs; unfold scan
  rw [if_neg he, if_neg (by simp [hb])]
theorem find_end {b : List UInt8} {ws : List (List UInt8)} {many : Nat} {a : Int} (h : FindAt b ws ws.length many a) : (many = 1 → wantZ (findL b ws) = a) ∧ (many ≠ 1 → wantZ (findL b ws) = -1) := by
  obtain ⟨_, _, f, h3, h⟩ := h
  rw [List.drop_length] at h
  rw [← h]; unfold scan
  constructor
  · intro e; rw [if_pos e, h3 (by omega)]; rfl
  · intro e; rw [if_neg e]; rfl

theorem begins_no {b p : List UInt8} (h : begins b p = false) (h0 : b ≠ []) : p.take b.length ≠ b := by
  intro e
  have : begins b p = true := begins_iff.2 ⟨h0, by rw [← e]; exact List.take_prefix _ _⟩
  rw [h] at this; cases this
theorem begins_yes {b p : List UInt8} (h : begins b p = true) (hne : p ≠ b) : b ≠ [] ∧ b.length < p.length ∧ p.take b.length = b := by
  obtain ⟨h0, q, rfl⟩ := begins_iff.1 h
  refine ⟨h0, ?_, by simp⟩
  cases q with
  | nil => simp at hne
  | cons c q => simp

set_option maxHeartbeats 1600000 in
theorem rfind_is (s : List UInt8) (ws : List (List UInt8)) (L n : Nat) (v : Int) (w : World) (hs : s.length ≤ 100) (hn : ws.length = n) (hn2 : n ≤ 100) (hw : ∀ p ∈ ws, p.length ≤ 100) (hL : ListAt L ws w) (hv : Hid (wantZ (findL (low s) ws) = v)) :
    Calls Tryz.prog 62 #[.string ⟨s.toArray⟩, .slice (some ⟨L, 0, none⟩) n n] w fun e w' => e = .returned (.int .i64 v) ∧ Below w.heap.size w w' := by
  have HL := Lib.hid hL
  have HN := Lib.hid hn
  have HW := Lib.hid hw
  clear hL hn hw
  obtain ⟨b, hb⟩ : ∃ b, low s = b := ⟨_, rfl⟩
  have hbl : b.length ≤ 100 := by rw [← hb, low_len]; exact hs
  have hbz := wsize b
  have SM : Hid (∀ W : World, Calls Tryz.prog 99 #[.string ⟨s.toArray⟩] W fun e w' => e = .returned (.string ⟨b.toArray⟩) ∧ Below W.heap.size W w') := Lib.hid fun W => hb ▸ rsmall_any s W hs
  rw [hb] at hv
  clear hb
  go_enter Tryz.func62, Tryz.ntmps62
  go_wp2_with (first
    | (go_at_call 99; refine (SM.out _).mono ?_; rintro e w1 ⟨rfl, k1⟩
       have HL1 := Lib.hid (HL.out.next k1)
       have K1 := Lib.hid k1
       clear k1))
  go_loopw [5, 6, 7] (fun vn va vi w' => ∃ (i many : Nat) (a : Int), vn = .int .i64 many ∧ va = .int .i64 a ∧ vi = .int .i64 i ∧ FindAt b ws i many a ∧ Below w.heap.size w w' ∧ ListAt L ws w') (fun _ _ vi _ => n - (intOf vi).toNat)
  case atStart => exact ⟨0, 0, -1, rfl, rfl, rfl, ⟨by omega, by omega, 0, by omega, rfl⟩, K1.out, HL1.out⟩
  case round =>
    obtain ⟨i, many, a, rfl, rfl, rfl, hF, kb, hl⟩ := hrel
    have KB := Lib.hid kb
    have HF := Lib.hid hF
    have HLr := Lib.hid hl
    have i1 : i ≤ n := by rw [← HN.out]; exact hF.le
    have m1 := hF.my
    clear kb hF hl HL1 K1 SM HL
    by_cases hi : i < n
    · obtain ⟨p, hp⟩ : ∃ p, ws[i]? = some p := ⟨_, List.getElem?_eq_getElem (by rw [HN.out]; exact hi)⟩
      have HP := Lib.hid hp
      have hpc := HLr.out.cell i p hp
      have hpl : p.length ≤ 100 := HW.out p (List.mem_of_getElem? hp)
      have hLs := HLr.out.lt
      have hpz := wsize p
      have hi' : (i : Int) < (n : Int) := by omega
      clear hp
      by_cases hpb : p = b
      · have V : Hid (v = (i : Int)) := Lib.hid (by rw [← hv.out, find_same HF.out HP.out hpb]; rfl)
        subst hpb
        go_wp2
        go_ret
        rw [V.out]
        exact ⟨rfl, KB.out⟩
      · have hpb' : (p == b) = false := by simp [hpb]
        have HNE := Lib.hid hpb
        by_cases hbg : begins b p = true
        · obtain ⟨b0, bl, bt⟩ := begins_yes hbg hpb
          have FM := Lib.hid (find_more HF.out HP.out hpb hbg)
          have hsl := wsub_run p b.length b bt (by omega)
          have b0' : b.isEmpty = false := by cases b <;> simp_all
          have bl' : (b.length : Int) < (p.length : Int) := by omega
          clear hpb hbg b0 bt
          go_wp2
          go_roundw
          case rel => exact ⟨i + 1, many + 1, i, by go_num, rfl, by go_num, FM.out, KB.out, HLr.out⟩
          case measure => simp [intOf]; omega
        · have hbg' : begins b p = false := by simpa using hbg
          have FO := Lib.hid (find_on HF.out HP.out hpb hbg')
          clear hbg
          by_cases b0 : b = []
          · subst b0
            clear hpb hbg'
            go_wp2
            go_roundw
            case rel => exact ⟨i + 1, many, a, by go_num, rfl, by go_num, FO.out, KB.out, HLr.out⟩
            case measure => simp [intOf]; omega
          · have b0' : b.isEmpty = false := by cases b <;> simp_all
            by_cases bl : b.length < p.length
            · obtain ⟨t, ht⟩ : ∃ t, p.take b.length = t := ⟨_, rfl⟩
              have hsl := wsub_run p b.length t ht (by omega)
              have htb : (t == b) = false := by
                have := begins_no hbg' b0
                rw [ht] at this
                simp [this]
              have bl' : (b.length : Int) < (p.length : Int) := by omega
              clear hpb hbg' b0 ht
              go_wp2
              go_roundw
              case rel => exact ⟨i + 1, many, a, by go_num, rfl, by go_num, FO.out, KB.out, HLr.out⟩
              case measure => simp [intOf]; omega
            · have bl' : ¬ (b.length : Int) < (p.length : Int) := by omega
              clear hpb hbg' b0
              go_wp2
              go_roundw
              case rel => exact ⟨i + 1, many, a, by go_num, rfl, by go_num, FO.out, KB.out, HLr.out⟩
              case measure => simp [intOf]; omega
    · obtain rfl : i = n := by omega
      have hi' : ¬ ((i : Int) < (i : Int)) := by omega
      have FE := Lib.hid (find_end (HN.out ▸ HF.out))
      by_cases hm : many = 1
      · have V : Hid (v = a) := Lib.hid (by rw [← hv.out]; exact FE.out.1 hm)
        subst hm
        go_wp2
        go_ret
        rw [V.out]
        exact ⟨rfl, KB.out⟩
      · have V : Hid (v = -1) := Lib.hid (by rw [← hv.out]; exact FE.out.2 hm)
        have hm' : ((many : Int) == 1) = false := by simp; omega
        clear hm
        go_wp2
        go_ret
        rw [V.out]
        exact ⟨rfl, KB.out⟩
end Go.Proofs.YtfmehdophoejiaaGreatDoor

namespace Go.Proofs.YtfmehdophoejiaaGreatDoor
open Go.RowKit Go.Shelf
attribute [local go_sem] Oper.semAt_some

abbrev Pl : Type := { x : Nat × Bool // x.1 < 1000000 }
def plV (x : Pl) : Array Value := #[.int .i64 x.1.1, .bool x.1.2]

/-- What a round that goes on keeps: all but the two variables at g and g + 1. -/
structure Keeps2 (g n : Nat) (W W' : World) : Prop where
  bel : Below g W W'
  up : ∀ j, g + 2 ≤ j → j < n → W'.heap[j]? = W.heap[j]?
theorem Keeps2.trans {g n : Nat} {A B C : World} (h : Keeps2 g n A B) (k : Keeps2 g n B C) : Keeps2 g n A C := ⟨h.bel.trans k.bel, fun j h1 h2 => (k.up j h1 h2).trans (h.up j h1 h2)⟩
theorem Keeps2.cell {g n b o : Nat} {W W' : World} (h : Keeps2 g n W W') (h1 : g + 2 ≤ b) (h2 : b < n) : W'.cell? ⟨b, o, none⟩ = W.cell? ⟨b, o, none⟩ := by
  simp only [World.cell?, h.up b h1 h2]

theorem hp_is (p b : List UInt8) (v : Bool) (w : World) (h : Hid (b.isPrefixOf p = v)) : Calls Tryz.prog 143 #[.string ⟨p.toArray⟩, .string ⟨b.toArray⟩] w fun e w' => e = .returned (.bool v) ∧ w' = w := by
  have := Tryz.strings_HasPrefix ⟨p.toArray⟩ ⟨b.toArray⟩ w
  have e : Lib.hasPrefix p b = v := h.out
  rw [show (⟨p.toArray⟩ : ByteArray).data.toList = p from rfl, show (⟨b.toArray⟩ : ByteArray).data.toList = b from rfl, e] at this
  exact this

theorem meantL_at {b p : List UInt8} {ws : List (List UInt8)} {i : Nat} (hp : ws[i]? = some p) : meantL b (ws.drop i) i = (if begins b p then [(i, decide (b = p))] else []) ++ meantL b (ws.drop (i + 1)) (i + 1) := by
  rw [wdrop_at hp]
  simp only [meantL]
  split <;> rfl

set_option maxHeartbeats 2000000 in
theorem meant_in (F : Fence) (hF : F = Fence.wide) (n : Nat) (hn : 1 ≤ n) (l Bl Bw g N L m : Nat) (b : List UInt8) (ws : List (List UInt8)) (hm : ws.length = m) (hm2 : m ≤ 100) (J Jx : List Pl → World → Prop)
    (W : World) (hA : AbidesFrom W.heap.size J)
    (hY : ∀ pre x W1, J pre W1 → pre.length < (meantL b ws 0).length → YieldAt F (n - 1) Tryz.prog l (plV x) W1 fun e W' =>
      (e = .returned (.bool true) ∧ J (pre ++ [x]) W' ∧ Keeps2 g N W1 W') ∨ (e = .returned (.bool false) ∧ Jx (pre ++ [x]) W'))
    (hBl : W.cell? ⟨Bl, 0, none⟩ = some (.slice (some ⟨L, 0, none⟩) m m)) (hBw : W.cell? ⟨Bw, 0, none⟩ = some (.string ⟨b.toArray⟩)) (hw1 : g + 2 ≤ Bw) (hw2 : Bw < N) (hL : ListAt L ws W) (hLg : L < g) (h0 : J [] W) :
    CallsIn F n Tryz.prog 142 #[.func (.yield l) #[] #[], .pointer (some ⟨Bl, 0, none⟩), .pointer (some ⟨Bw, 0, none⟩)] W fun e W' => (∃ v, e = .returned v) ∧
      ((∃ xs : List Pl, xs.map Subtype.val = meantL b ws 0 ∧ J xs W') ∨ (∃ pre : List Pl, pre.map Subtype.val <+: meantL b ws 0 ∧ Jx pre W')) := by
  subst hF
  refine callsIn_of_wp Tryz.func142 rfl trivial ?_ rfl
  simp only [Tryz.ntmps142, List.size_toArray, List.length_cons, List.length_nil, Nat.reduceAdd, Nat.reduceSub, Array.replicate_succ, Array.replicate_zero, List.push_toArray, List.append_toArray, List.nil_append, List.cons_append]
  have HM := Lib.hid hm
  have HL := Lib.hid hL
  have HBW := Lib.hid hBw
  have H0 := Lib.hid h0
  have HA := Lib.hid hA
  have HY := Lib.hid hY
  have hBls := wcell_lt hBl
  clear hm hL h0 hA hY hBw
  gi_wp2
  gi_loopw [9] (fun vi wr => ∃ (pre : List Pl) (i : Nat), vi = .int .i64 i ∧ i ≤ m ∧ pre.map Subtype.val ++ meantL b (ws.drop i) i = meantL b ws 0 ∧ wr.cell? ⟨Bw, 0, none⟩ = some (.string ⟨b.toArray⟩) ∧ ListAt L ws wr ∧ J pre wr) (fun vi _ => m - (intOf vi).toNat)
  case atStart => exact ⟨[], 0, rfl, by omega, by simp, HBW.out, HL.out, H0.out⟩
  case round =>
    obtain ⟨pre, i, rfl, i1, e, hbw, hl, hJ⟩ := hrel
    have E := Lib.hid e
    have HLr := Lib.hid hl
    have HJ := Lib.hid hJ
    clear e hl hJ HL HBW H0 hBl
    have hBws := wcell_lt hbw
    by_cases hi : i < m
    · obtain ⟨p, hp⟩ : ∃ p, ws[i]? = some p := ⟨_, List.getElem?_eq_getElem (by rw [HM.out]; exact hi)⟩
      have MA := Lib.hid (meantL_at (b := b) hp)
      have hpc := HLr.out.cell i p hp
      have hLs := HLr.out.lt
      have hi' : (i : Int) < (m : Int) := by omega
      clear hp
      by_cases hbg : begins b p = true
      · have b0 : b.isEmpty = false := by have := (begins_iff.1 hbg).1; cases b <;> simp_all
        have HP : Hid (b.isPrefixOf p = true) := Lib.hid (by unfold begins at hbg; rw [Bool.and_eq_true] at hbg; exact hbg.2)
        have hk : i < 1000000 := by omega
        have MB : Hid (meantL b (ws.drop i) i = (i, decide (b = p)) :: meantL b (ws.drop (i + 1)) (i + 1)) := Lib.hid (by rw [MA.out, if_pos hbg]; rfl)
        have hln : pre.length < (meantL b ws 0).length := by
          have := congrArg List.length E.out
          rw [List.length_append, List.length_map, MB.out, List.length_cons] at this
          omega
        obtain ⟨z, hz⟩ : ∃ z : Bool, decide (b = p) = z := ⟨_, rfl⟩
        have hz' : (b == p) = z := by rw [← hz]; by_cases h : b = p <;> simp [h]
        have MC : Hid (pre.map Subtype.val ++ (i, z) :: meantL b (ws.drop (i + 1)) (i + 1) = meantL b ws 0) := Lib.hid (by rw [← E.out, MB.out, hz])
        obtain ⟨fn, tmps, assign, body, hy, hR⟩ := HY.out pre ⟨(i, z), hk⟩ wr HJ.out hln
        simp only [plV] at hy
        clear hz hbg hln
        cases z with
        | true =>
          gi_wp2_with (refine ⟨trivial, ?_⟩; gi_at_call 143; refine (callsIn_wide.2 (hp_is p b true _ HP)).mono ?_; rintro e w' ⟨rfl, rfl⟩)
          refine hR.mono ?_
          rintro e W3 (⟨rfl, hJ3, hk3⟩ | ⟨rfl, hJx3⟩)
          · have HJ3 := Lib.hid hJ3
            have HK3 := Lib.hid hk3
            clear hJ3 hk3
            gi_wp2
            go_roundw
            case rel => exact ⟨pre ++ [⟨(i, true), hk⟩], i + 1, by go_num, by omega, by rw [List.map_append, List.append_assoc]; exact MC.out, by rw [HK3.out.cell hw1 hw2]; exact hbw, HLr.out.below HK3.out.bel hLg, HJ3.out⟩
            case measure => simp [intOf]; omega
          · gi_wp2
            exact bodyPost_ret (results_none rfl _ _ _) rfl ⟨⟨_, rfl⟩, .inr ⟨_, ⟨_, by rw [← MC.out, List.map_append, List.append_assoc]; rfl⟩, hJx3⟩⟩
        | false =>
          gi_wp2_with (refine ⟨trivial, ?_⟩; gi_at_call 143; refine (callsIn_wide.2 (hp_is p b true _ HP)).mono ?_; rintro e w' ⟨rfl, rfl⟩)
          refine hR.mono ?_
          rintro e W3 (⟨rfl, hJ3, hk3⟩ | ⟨rfl, hJx3⟩)
          · have HJ3 := Lib.hid hJ3
            have HK3 := Lib.hid hk3
            clear hJ3 hk3
            gi_wp2
            go_roundw
            case rel => exact ⟨pre ++ [⟨(i, false), hk⟩], i + 1, by go_num, by omega, by rw [List.map_append, List.append_assoc]; exact MC.out, by rw [HK3.out.cell hw1 hw2]; exact hbw, HLr.out.below HK3.out.bel hLg, HJ3.out⟩
            case measure => simp [intOf]; omega
          · gi_wp2
            exact bodyPost_ret (results_none rfl _ _ _) rfl ⟨⟨_, rfl⟩, .inr ⟨_, ⟨_, by rw [← MC.out, List.map_append, List.append_assoc]; rfl⟩, hJx3⟩⟩
      · have MB : Hid (pre.map Subtype.val ++ meantL b (ws.drop (i + 1)) (i + 1) = meantL b ws 0) := Lib.hid (by rw [← E.out, MA.out, if_neg hbg]; rfl)
        by_cases b0 : b = []
        · subst b0
          clear hbg
          gi_wp2_with (refine ⟨trivial, ?_⟩)
          refine ⟨fun _ h => (by cases h), ?_⟩
          gi_wp2
          go_roundw
          case rel => exact ⟨pre, i + 1, by go_num, by omega, MB.out, hbw, HLr.out, HJ.out⟩
          case measure => simp [intOf]; omega
        · have HP : Hid (b.isPrefixOf p = false) := Lib.hid (by
            have h1 : begins b p = false := by simpa using hbg
            unfold begins at h1
            have h2 : b.isEmpty = false := by cases b <;> simp_all
            simpa [h2] using h1)
          have b0' : b.isEmpty = false := by cases b <;> simp_all
          clear hbg b0
          gi_wp2_with (refine ⟨trivial, ?_⟩; gi_at_call 143; refine (callsIn_wide.2 (hp_is p b false _ HP)).mono ?_; rintro e w' ⟨rfl, rfl⟩)
          refine ⟨fun _ h => (by cases h), ?_⟩
          gi_wp2
          go_roundw
          case rel => exact ⟨pre, i + 1, by go_num, by omega, MB.out, hbw, HLr.out, HJ.out⟩
          case measure => simp [intOf]; omega
    · obtain rfl : i = m := by omega
      have hi' : ¬ ((i : Int) < (i : Int)) := by omega
      have E2 : Hid (pre.map Subtype.val = meantL b ws 0) := Lib.hid (by
        have := E.out
        rw [← HM.out, List.drop_length] at this
        simpa [meantL] using this)
      gi_wp2
      go_end0
      exact ⟨⟨_, rfl⟩, .inl ⟨_, E2.out, HJ.out⟩⟩
end Go.Proofs.YtfmehdophoejiaaGreatDoor

namespace Go.Proofs.YtfmehdophoejiaaGreatDoor
open Go.RowKit Go.Shelf
attribute [local go_sem] Oper.semAt_some

theorem wscope_in {c : Code} {n : Nat} {Q : Exit → Act → World → Prop} {a : Act} {w : World} (h : c.wpIn Fence.wide n Tryz.prog (Exit.noGoto Q) a w) : (Code.scope c).wpIn Fence.wide n Tryz.prog Q a w := wpIn_wide.2 (wp_scope_straight (wpIn_wide.1 h))

/-- What the two variables of find hold. -/
structure TwoI (g : Nat) (a b : Int) (W : World) : Prop where
  x : Go.Boxed W g 3 (.int .i64 a)
  y : Go.Boxed W (g + 1) 3 (.int .i64 b)
theorem TwoI.next {g : Nat} {a b : Int} {W W1 : World} (h : TwoI g a b W) (k : Below W.heap.size W W1) : TwoI g a b W1 := ⟨(k.block g h.x.lt).trans h.x, (k.block (g + 1) h.y.lt).trans h.y⟩
theorem TwoI.set {g : Nat} {a b : Int} {W : World} (h : TwoI g a b W) (v : Int) : TwoI g v b (W.setCell ⟨g, 0, none⟩ (.int .i64 v)) := ⟨h.x.set _, h.y.other (by omega) _⟩
theorem TwoI.set2 {g : Nat} {a b : Int} {W : World} (h : TwoI g a b W) (v : Int) : TwoI g a v (W.setCell ⟨g + 1, 0, none⟩ (.int .i64 v)) := ⟨h.x.other (by omega) _, h.y.set _⟩
theorem twoI_own {β : Type} (g B : Nat) (f h : β → Int) : OwnFrom B (fun s W => TwoI g (f s) (h s) W) := fun s X Y row hs hg hrow =>
  ⟨Own.from (boxed_own g 3 (fun s => .int .i64 (f s))) B s X Y row hs.x hg hrow, Own.from (boxed_own (g + 1) 3 (fun s => .int .i64 (h s))) B s X Y row hs.y hg hrow⟩

/-- What the rounds write: the two variables alone. -/
theorem keeps2_one {g N : Nat} (W : World) (v : Value) : Keeps2 g N W (W.setCell ⟨g, 0, none⟩ v) :=
  ⟨(Below.refl g W).setCell (p := ⟨g, 0, none⟩) (Nat.le_refl _) _, fun j h1 _ => Below.heap_setCell W _ v _ (by show j ≠ g; omega)⟩
theorem keeps2_two {g N : Nat} (W : World) (v : Value) : Keeps2 g N W (W.setCell ⟨g + 1, 0, none⟩ v) :=
  ⟨(Below.refl g W).setCell (p := ⟨g + 1, 0, none⟩) (by show g ≤ g + 1; omega) _, fun j h1 _ => Below.heap_setCell W _ v _ (by show j ≠ g + 1; omega)⟩
theorem keeps2_b {g N : Nat} {w : World} (hg : g ≤ w.heap.size) (hN : N ≤ w.heap.size) (W : World) (l : Nat) (o o' : Obj) (hl : w.heap.size ≤ l) (h : W.heap[l]? = some o) (h1 : o.isCells = false) (h2 : o.isWalk = false) : Keeps2 g N W (W.putObj l o') :=
  ⟨belowK_b hg W l o o' hl h h1 h2, fun j _ hj => by
    have hne : l ≠ j := by omega
    simp [World.putObj, hne]⟩

def lastW (pre : List Pl) : Bool := noneW ((pre.map Subtype.val).dropLast) && ((pre.map Subtype.val).getLast?.map (·.2)).getD false

theorem find_done {b s : List UInt8} {ws : List (List UInt8)} (hb : meantL b ws 0 = meantL (low s) ws 0) (hw : ∀ w ∈ ws, w ≠ []) {xs : List Pl} (hx : xs.map Subtype.val = meantL b ws 0) (hn : noneW (xs.map Subtype.val) = true) :
    findL (low s) ws = if xs.length = 1 then some (lastP 0 (xs.map Subtype.val)) else none := by
  have e : (xs.map Subtype.val).length = xs.length := List.length_map ..
  rw [hx, hb] at e hn
  rw [hx, hb]
  unfold findL
  rw [scan_none (low s) ws 0 0 0 hw hn, Nat.zero_add, e]
theorem find_stop {b s : List UInt8} {ws : List (List UInt8)} (hb : meantL b ws 0 = meantL (low s) ws 0) (hw : ∀ w ∈ ws, w ≠ []) {pre : List Pl} (hx : pre.map Subtype.val <+: meantL b ws 0) (hn : lastW pre = true) :
    findL (low s) ws = some (lastP 0 (pre.map Subtype.val)) := by
  unfold lastW at hn
  rw [Bool.and_eq_true] at hn
  obtain ⟨h1, h2⟩ := hn
  obtain ⟨q, hq⟩ := hx
  cases hl : (pre.map Subtype.val).getLast? with
  | none => rw [hl] at h2; cases h2
  | some y =>
    rw [hl] at h2
    have hy : y.2 = true := h2
    obtain ⟨ys, e⟩ := List.getLast?_eq_some_iff.1 hl
    rw [e, List.dropLast_concat] at h1
    have hlp : lastP 0 (pre.map Subtype.val) = y.1 := by simp only [lastP, hl]; rfl
    rw [hlp]
    unfold findL
    refine scan_some (low s) ws 0 0 0 ys q y.1 hw h1 ?_
    rw [← hb, ← hq, e, List.append_assoc, ← hy]; rfl
theorem lastW_snoc (pre : List Pl) (x : Pl) : lastW (pre ++ [x]) = (noneW (pre.map Subtype.val) && x.1.2) := by simp [lastW]

theorem meant_stops (n : Nat) (hn : 1 ≤ n) (Bl Bw g N L m : Nat) (b : List UInt8) (ws : List (List UInt8)) (hm : ws.length = m) (hm2 : m ≤ 100) (w : World) (hBl : w.cell? ⟨Bl, 0, none⟩ = some (.slice (some ⟨L, 0, none⟩) m m)) (hBw : w.cell? ⟨Bw, 0, none⟩ = some (.string ⟨b.toArray⟩)) (hw1 : g + 2 ≤ Bw) (hw2 : Bw < N) (hL : ListAt L ws w) (hLg : L < g) :
    SeqStopsK Fence.wide n Tryz.prog 142 #[.pointer (some ⟨Bl, 0, none⟩), .pointer (some ⟨Bw, 0, none⟩)] plV (Keeps2 g N) (fun xs : List Pl => xs.map Subtype.val = meantL b ws 0) (fun pre : List Pl => pre.map Subtype.val <+: meantL b ws 0) (meantL b ws 0).length w := fun l J Jx W hW hJ _ hY h0 =>
  meant_in Fence.wide rfl n hn l Bl Bw g N L m b ws hm hm2 J Jx W hJ hY ((hW.cell (p := ⟨Bl, 0, none⟩) (wcell_lt hBl)).trans hBl) ((hW.cell (p := ⟨Bw, 0, none⟩) (wcell_lt hBw)).trans hBw) hw1 hw2 (hL.next hW) hLg h0

set_option maxHeartbeats 2000000 in
theorem find_in (s : List UInt8) (ws : List (List UInt8)) (L m : Nat) (w : World) (hs : s.length ≤ 1000) (hm : ws.length = m) (hm2 : m ≤ 100) (hw0 : ∀ p ∈ ws, p ≠ []) (hw1 : ∀ p ∈ ws, ascii p) (hL : ListAt L ws w) (hT : U8At w) (n : Nat) (hn : n = 5) (v e0 : Int)
    (HV : Hid ((resN (findL (low s) ws) 0 : Int) = v ∧ (resE (findL (low s) ws) : Int) = e0)) :
    CallsIn Fence.wide n Tryz.prog 90 #[.string ⟨s.toArray⟩, .slice (some ⟨L, 0, none⟩) m m] w fun e w' => e = .returned (.tuple #[.int .i64 v, .int .i64 e0]) ∧ Below w.heap.size w w' := by
  have h1 : 1 ≤ n := by omega
  have HW0 := Lib.hid hw0
  have HL := Lib.hid hL
  have HM := Lib.hid hm
  have HT := Lib.hid hT
  have MM := Lib.hid (map_meant s ws hw1)
  have hLw := hL.lt
  clear hw0 hw1 hL hm hT
  refine callsIn_of_wp_marks Tryz.func90 rfl trivial ?_ rfl
  simp only [Tryz.ntmps90, List.size_toArray, List.length_cons, List.length_nil, Nat.reduceAdd, Nat.reduceSub, Array.replicate_succ, Array.replicate_zero, List.push_toArray, List.append_toArray, List.nil_append, List.cons_append]
  gi_wp2
  refine wscope_in ?_
  gi_wp2
  refine wpIn_label ?_
  obtain ⟨b, hb⟩ : ∃ b, Lib.mapD smallZ s = b := ⟨_, rfl⟩
  have ME : Hid (∀ W : World, U8At W → Calls Tryz.prog 121 #[.string ⟨s.toArray⟩, .slice (some ⟨L, 0, none⟩) m m] W (Meant b (.slice (some ⟨L, 0, none⟩) m m) W)) := Lib.hid fun W h => hb ▸ meant_any s L m W hs h
  rw [hb] at MM
  clear hb
  obtain ⟨W0, hW0⟩ : ∃ W0, (w.alloc (.cells #[.int .i64 0] 3)).alloc (.cells #[.int .i64 0] 3) = W0 := ⟨_, rfl⟩
  have hsz : W0.heap.size = w.heap.size + 2 := by rw [← hW0]; simp
  have hB0 : Below w.heap.size w W0 := by rw [← hW0]; exact ((Below.refl _ w).alloc (Nat.le_refl _) _).alloc (by simp) _
  have hT0 : TwoI w.heap.size 0 0 W0 := by
    rw [← hW0]
    refine ⟨(Go.Boxed.new w _ _).alloc _, ?_⟩
    have := Go.Boxed.new (w.alloc (.cells #[.int .i64 0] 3)) 3 (.int .i64 0)
    rwa [World.size_alloc] at this
  try simp only [hW0]
  gi_wp2_with (refine ⟨trivial, ?_⟩; gi_at_call 121; refine (callsIn_wide.2 (ME.out _ (HT.out.next hB0))).mono ?_; rintro e w1 ⟨Bl, Bw, rfl, bl1, bw1, bl2, bw2, k1⟩)
  have T0 := Lib.hid (hT0.next k1)
  have B1 := Lib.hid (hB0.trans (k1.mono hB0.size))
  have L1 := Lib.hid ((HL.out.next hB0).next k1)
  have bwl := wcell_lt bw2
  have bll := wcell_lt bl2
  have hsz1 := k1.size
  rw [hsz] at bl1 bw1 hsz1
  clear hT0 hB0 hW0 hsz k1 ME HT
  refine wpIn_rangeFunc_ownF rfl h1 (gf := 142) (lb := #[.pointer (some ⟨Bl, 0, none⟩), .pointer (some ⟨Bw, 0, none⟩)]) rfl trivial (enters_of Tryz.func142 (by kernel_rfl) rfl)
    (meant_stops (n - 1) (by omega) Bl Bw w.heap.size w1.heap.size L m b ws HM.out hm2 w1 bl2 bw2 bw1 bwl L1.out hLw) Keeps2.trans (keeps2_b (by omega) (Nat.le_refl _)) (Below.refl _ _) (fun _ => rfl)
    (fun pre W => (noneW (pre.map Subtype.val) = true ∧ TwoI w.heap.size (lastP 0 (pre.map Subtype.val)) (pre.length : Nat) W) ∧ Below w.heap.size w W)
    (fun c pre W => (c = .exit 0 ∧ lastW pre = true ∧ TwoI w.heap.size (lastP 0 (pre.map Subtype.val)) 1 W) ∧ Below w.heap.size w W)
    ?hI ?hIx ⟨⟨rfl, T0.out⟩, B1.out⟩
    (fun x => { tmps := #[.string ⟨s.toArray⟩, .slice (some ⟨L, 0, none⟩) m m, undef, undef, .int .i64 0, .int .i64 0, .pointer (some ⟨w.heap.size, 0, none⟩), .pointer (some ⟨w.heap.size + 1, 0, none⟩), .int .i64 x.1.1, .bool x.1.2, .string ⟨s.toArray⟩, .slice (some ⟨L, 0, none⟩) m m,
      .func (.func 142) #[] #[.pointer (some ⟨Bl, 0, none⟩), .pointer (some ⟨Bw, 0, none⟩)], .int .i64 x.1.1, .bool x.1.2, undef, undef, undef, undef, undef, undef, undef, undef], defers := [] }) ?assign ?body ?done ?stop
  case hI =>
    exact OwnFrom.and (OwnFrom.and (ownFrom_pure _ _) (twoI_own _ _ _ _)) (ownFrom_below (by omega) (by omega))
  case hIx =>
    intro c
    exact OwnFrom.and (OwnFrom.and (ownFrom_pure _ _) (OwnFrom.and (ownFrom_pure _ _) (twoI_own _ _ _ (fun _ => 1)))) (ownFrom_below (by omega) (by omega))
  case assign =>
    intro l x W K hK
    simp only [plV]
    gi_wp2
    exact hK
  case body =>
    rintro l pre x W ⟨⟨hok, hT⟩, hB⟩ hlen
    have hln := meantL_len b ws 0
    rw [HM.out] at hln
    have HO := Lib.hid hok
    have HB := Lib.hid hB
    have hx2 := x.2
    obtain ⟨f0, hf0⟩ : ∃ f0 : Nat, lastP 0 (pre.map Subtype.val) = f0 := ⟨_, rfl⟩
    rw [hf0] at hT
    obtain ⟨k0, hk0⟩ : ∃ k0 : Nat, pre.length = k0 := ⟨_, rfl⟩
    rw [hk0] at hT hlen
    have HK := Lib.hid hk0
    have T1 := Lib.hid hT
    have hx := hT.x.cell
    have hfx := hT.x.frozen
    have hsx := hT.x.lt
    have hy := hT.y.cell
    have hfy := hT.y.frozen
    have hsy := hT.y.lt
    have e : Hid ((pre ++ [x]).map Subtype.val = pre.map Subtype.val ++ [x.1]) := Lib.hid (by simp)
    have el : Hid ((pre ++ [x]).length = k0 + 1) := Lib.hid (by rw [List.length_append, HK.out]; rfl)
    have wd := lastW_snoc pre x
    clear hok hB hT hf0 hk0
    obtain ⟨⟨p, z⟩, hp⟩ := x
    have WD := Lib.hid wd
    clear wd
    have hp' : p < 1000000 := hp
    cases z with
    | true =>
      gi_wp2
      refine ⟨(KeepsOthers.setCell _ _ _).trans (KeepsOthers.setCell _ _ _), ⟨rfl, ?_, ?_⟩, ?_⟩
      · rw [WD.out, HO.out]; rfl
      · rw [e.out, lastP_snoc]; exact (T1.out.set _).set2 _
      · exact (HB.out.setCell (p := ⟨w.heap.size, 0, none⟩) (Nat.le_refl _) _).setCell (p := ⟨w.heap.size + 1, 0, none⟩) (by show w.heap.size ≤ w.heap.size + 1; omega) _
    | false =>
      gi_wp2
      refine ⟨(KeepsOthers.setCell _ _ _).trans (KeepsOthers.setCell _ _ _), (keeps2_one _ _).trans (keeps2_two _ _), ?_⟩
      refine ⟨⟨by rw [e.out, noneW_snoc, HO.out]; rfl, ?_⟩, ?_⟩
      · rw [e.out, lastP_snoc, el.out, Int.natCast_add]; exact (T1.out.set _).set2 _
      · exact (HB.out.setCell (p := ⟨w.heap.size, 0, none⟩) (Nat.le_refl _) _).setCell (p := ⟨w.heap.size + 1, 0, none⟩) (by show w.heap.size ≤ w.heap.size + 1; omega) _
  case done =>
    rintro D xs W hD hS ⟨⟨hok, hT⟩, hB⟩ hK
    have FD := Lib.hid (find_done MM.out HW0.out hS hok)
    have hx := hT.x.cell
    have hy := hT.y.cell
    have hln := meantL_len b ws 0
    rw [← hS, HM.out, List.length_map] at hln
    obtain ⟨f0, hf0⟩ : ∃ f0 : Nat, lastP 0 (xs.map Subtype.val) = f0 := ⟨_, rfl⟩
    obtain ⟨k0, hk0⟩ : ∃ k0 : Nat, xs.length = k0 := ⟨_, rfl⟩
    rw [hf0] at FD hx
    rw [hk0] at FD hy hln
    clear hok hT hS hf0 hk0
    by_cases h : k0 = 1
    · have HE : Hid (v = (f0 : Int) ∧ e0 = 0) := Lib.hid (by
        rw [FD.out, if_pos h] at HV
        exact ⟨HV.out.1.symm, HV.out.2.symm⟩)
      subst h
      gi_wp2
      refine ⟨by simp, .inl ⟨_, _, rfl, run_takeDeferred hK, ?_⟩⟩
      refine ⟨_, results_tmp2 rfl _ _ _, ?_⟩
      rw [HE.out.1, HE.out.2]
      exact ⟨rfl, hB.trans (belowK_b (w := w) (Nat.le_refl _) W D _ _ (by omega) hK rfl rfl)⟩
    · have HE : Hid (v = 0 ∧ e0 = 13) := Lib.hid (by
        rw [FD.out, if_neg h] at HV
        exact ⟨HV.out.1.symm, HV.out.2.symm⟩)
      have h' : ((k0 : Int) == 1) = false := by simp; omega
      clear h
      gi_wp2
      refine ⟨by simp, .inl ⟨_, _, rfl, run_takeDeferred hK, ?_⟩⟩
      refine ⟨_, results_tmp2 rfl _ _ _, ?_⟩
      rw [HE.out.1, HE.out.2]
      exact ⟨rfl, hB.trans (belowK_b (w := w) (Nat.le_refl _) W D _ _ (by omega) hK rfl rfl)⟩
  case stop =>
    rintro D c pre W hD hSp ⟨⟨rfl, hok, hT⟩, hB⟩ hK
    have FS := Lib.hid (find_stop MM.out HW0.out hSp hok)
    have hx := hT.x.cell
    have hy := hT.y.cell
    obtain ⟨f0, hf0⟩ : ∃ f0 : Nat, lastP 0 (pre.map Subtype.val) = f0 := ⟨_, rfl⟩
    rw [hf0] at FS hx
    have HE : Hid (v = (f0 : Int) ∧ e0 = 0) := Lib.hid (by
      rw [FS.out] at HV
      exact ⟨HV.out.1.symm, HV.out.2.symm⟩)
    clear hok hT hSp hf0
    gi_wp2
    refine ⟨by simp, .inl ⟨_, _, rfl, run_takeDeferred hK, ?_⟩⟩
    refine ⟨_, results_tmp2 rfl _ _ _, ?_⟩
    rw [HE.out.1, HE.out.2]
    exact ⟨rfl, hB.trans (belowK_b (w := w) (Nat.le_refl _) W D _ _ (by omega) hK rfl rfl)⟩

/-- find, at a list that lies in memory. -/
theorem find_is (s : List UInt8) (ws : List (List UInt8)) (L m : Nat) (v e0 : Int) (w : World) (hs : s.length ≤ 1000) (hm : ws.length = m) (hm2 : m ≤ 100) (hw0 : ∀ p ∈ ws, p ≠ []) (hw1 : ∀ p ∈ ws, ascii p) (hL : ListAt L ws w) (hT : U8At w)
    (HV : Hid ((resN (findL (low s) ws) 0 : Int) = v ∧ (resE (findL (low s) ws) : Int) = e0)) :
    Calls Tryz.prog 90 #[.string ⟨s.toArray⟩, .slice (some ⟨L, 0, none⟩) m m] w fun e w' => e = .returned (.tuple #[.int .i64 v, .int .i64 e0]) ∧ Below w.heap.size w w' :=
  callsIn_wide.1 (find_in s ws L m w hs hm hm2 hw0 hw1 hL hT 5 rfl v e0 HV)
end Go.Proofs.YtfmehdophoejiaaGreatDoor

/- The contract of the document's answer's Letter; nothing that was in memory changes.
The contracts of cmp.Or at two whole numbers, and of fire.Letter's closure; nothing that was in memory changes.
The contract of fire.Letter; nothing that was in memory changes.
The contract of the law's plain; nothing that was in memory changes. -/
import Derived.Test.YtblamffdlclomaaDoorMRA
import Derived.Test.YtblamffdlclomaaDoorFrQ
import Derived.Test.YtblamffdlclomaaDoorFrC
import Derived.Deep.RegionHeld3
import Derived.Test.YtblamffdlclomaaDoorFrO
import Derived.Shelf.SlSortCmp.QuietGrown
namespace Go.Proofs.YtblamffdlclomaaDoor
open Go Go.RowKit

def bLt (r q : RV) : Prop := r.fr < q.fr ∨ r.fr = q.fr ∧ r.mo < q.mo
instance (r q : RV) : Decidable (bLt r q) := by unfold bLt; infer_instance
/-- The best rule of the first ones, and its place. -/
def bst (rs : List RV) : Nat → Option (Nat × RV)
  | 0 => none
  | i + 1 => match rs[i]? with
    | none => bst rs i
    | some r => if r.sv = 0 then (match bst rs i with
        | none => some (i, r)
        | some (k, q) => if bLt r q then some (i, r) else some (k, q)) else bst rs i
def ltrL (rs : List RV) (n : Nat) : List UInt8 := match bst rs n with
  | none => []
  | some (_, q) => q.lt
section
variable {rs : List RV} {i k : Nat} {r q : RV}
theorem bst_no (h : rs[i]? = some r) (h0 : r.sv ≠ 0) : bst rs (i + 1) = bst rs i := by rw [bst, h]; simp [h0]
theorem bst_new (h : rs[i]? = some r) (h0 : r.sv = 0) (hb : bst rs i = none) : bst rs (i + 1) = some (i, r) := by rw [bst, h]; simp [h0, hb]
theorem bst_yes (h : rs[i]? = some r) (h0 : r.sv = 0) (hb : bst rs i = some (k, q)) (hl : bLt r q) : bst rs (i + 1) = some (i, r) := by rw [bst, h]; simp [h0, hb, hl]
theorem bst_old (h : rs[i]? = some r) (h0 : r.sv = 0) (hb : bst rs i = some (k, q)) (hl : ¬ bLt r q) : bst rs (i + 1) = some (k, q) := by rw [bst, h]; simp [h0, hb, hl]
end
theorem bst_is {rs : List RV} {n k : Nat} {q : RV} (h : bst rs n = some (k, q)) : k < n ∧ rs[k]? = some q := by
  induction n with
  | zero => cases h
  | succ i ih =>
    have old (h : bst rs i = some (k, q)) : k < i + 1 ∧ rs[k]? = some q := ⟨Nat.lt_succ_of_lt (ih h).1, (ih h).2⟩
    cases hr : rs[i]? with
    | none => exact old (by rw [bst, hr] at h; exact h)
    | some r =>
      by_cases h0 : r.sv = 0
      · cases hb : bst rs i with
        | none => rw [bst_new hr h0 hb] at h; cases h; exact ⟨Nat.lt_succ_self _, hr⟩
        | some p =>
          obtain ⟨k', q'⟩ := p
          by_cases hl : bLt r q'
          · rw [bst_yes hr h0 hb hl] at h; cases h; exact ⟨Nat.lt_succ_self _, hr⟩
          · rw [bst_old hr h0 hb hl] at h; exact old (by rw [hb]; exact h)
      · rw [bst_no hr h0] at h; exact old h
def bstV : Option (Nat × RV) → Value
  | none => .int .i64 (-1)
  | some (k, _) => .int .i64 (k : Int)

set_option maxRecDepth 20000 in
set_option maxHeartbeats 8000000 in
theorem xletter_is (A0 : Option Addr) (n c0 : Nat) (rs : List RV) (w : World) (hR : RowsAt 11 cR A0 rs w) (hn : rs.length = n) (hn1 : n ≤ 1000) :
    Calls Tryd.prog 12 #[.slice A0 n c0] w fun e w' => e = .returned (.string ⟨(ltrL rs n).toArray⟩) ∧ Below w.heap.size w w' := by
  have HR := Lib.hid hR
  have HN := Lib.hid hn
  have X0 := Lib.hid (Below.refl w.heap.size w)
  clear hR hn
  go_enter Tryd.func12, Tryd.ntmps12
  go_wp2
  go_loopw [3, 4] (fun v vi wr => ∃ i : Nat, vi = .int .i64 i ∧ i ≤ n ∧ v = bstV (bst rs i) ∧ Below w.heap.size w wr) (fun _ vi _ => n - (intOf vi).toNat)
  case atStart => exact ⟨0, rfl, Nat.zero_le _, rfl, X0.out⟩
  case round =>
    clear X0
    obtain ⟨i, rfl, i1, rfl, hX⟩ := hrel
    have X := Lib.hid hX
    clear hX
    by_cases hlt : i < n
    · have hii : (i : Int) < (n : Int) := by omega
      obtain ⟨r, hr⟩ : ∃ r, rs[i]? = some r := ⟨_, List.getElem?_eq_getElem (by rw [HN.out]; exact hlt)⟩
      obtain ⟨L, off, rfl, hrul⟩ := rul_at HR.out hr
      obtain ⟨r0, r1, r2, r3, r4, r5, r6, r7, r8, r9, r10⟩ := (hrul.next X.out).cells
      have HRI := Lib.hid hr
      clear hr hrul
      by_cases h0 : r.sv = 0
      · have z0 : (r.sv != 0) = false := by simp [h0]
        have H0 := Lib.hid h0
        clear h0
        cases hb : bst rs i with
        | none =>
          have HB := Lib.hid (bst_new HRI.out H0.out hb)
          clear hb
          unfold bstV
          go_wp2
          go_quiet (fail)
          go_wp2
          go_round
          case rel => exact ⟨i + 1, rfl, by omega, by rw [HB.out], below_drewN X.out _⟩
          case measure => simp [intOf]; omega
        | some p =>
          obtain ⟨k, q⟩ := p
          obtain ⟨hk, hq⟩ := bst_is hb
          obtain ⟨L', off', e, hq2⟩ := rul_at HR.out hq
          cases e
          obtain ⟨q0, q1, q2, q3, q4, q5, q6, q7, q8, q9, q10⟩ := (hq2.next X.out).cells
          have hkk : (k : Int) < (n : Int) := by omega
          have hk0 : decide ((k : Int) < 0) = false := by simp
          have HB0 := Lib.hid hb
          have HY := Lib.hid (bst_yes HRI.out H0.out hb)
          have HO := Lib.hid (bst_old HRI.out H0.out hb)
          clear hb hq hq2
          unfold bstV
          by_cases c1 : r.fr < q.fr
          · have HB := Lib.hid (HY.out (.inl c1))
            go_wp2
            go_quiet (fail)
            go_wp2
            go_round
            case rel => exact ⟨i + 1, rfl, by omega, by rw [HB.out], below_drewN X.out _⟩
            case measure => simp [intOf]; omega
          · have d1 : decide (r.fr < q.fr) = false := by simp; omega
            by_cases c2 : r.fr = q.fr
            · have d2 : (r.fr == q.fr) = true := by simp [c2]
              by_cases c3 : r.mo < q.mo
              · have HB := Lib.hid (HY.out (.inr ⟨c2, c3⟩))
                clear c1 c2
                go_wp2
                go_quiet (fail)
                go_wp2
                go_round
                case rel => exact ⟨i + 1, rfl, by omega, by rw [HB.out], below_drewN X.out _⟩
                case measure => simp [intOf]; omega
              · have d3 : decide (r.mo < q.mo) = false := by simp; omega
                have HB := Lib.hid (HO.out (fun h => by unfold bLt at h; omega))
                clear c1 c2 c3
                go_wp2
                go_quiet (fail)
                go_wp2
                go_round
                case rel => exact ⟨i + 1, rfl, by omega, by rw [HB.out], below_drewN X.out _⟩
                case measure => simp [intOf]; omega
            · have d2 : (r.fr == q.fr) = false := by simp [c2]
              have HB := Lib.hid (HO.out (fun h => by unfold bLt at h; omega))
              clear c1 c2
              go_wp2
              go_quiet (fail)
              go_wp2
              go_round
              case rel => exact ⟨i + 1, rfl, by omega, by rw [HB.out], below_drewN X.out _⟩
              case measure => simp [intOf]; omega
      · have z0 : (r.sv != 0) = true := by simp [h0]
        have HB := Lib.hid (bst_no HRI.out h0)
        clear h0
        go_wp2
        go_round
        case rel => exact ⟨i + 1, rfl, by omega, by rw [HB.out], X.out⟩
        case measure => simp [intOf]; omega
    · obtain rfl : i = n := by omega
      have HL : Hid (ltrL rs i = match bst rs i with | none => [] | some (_, q) => q.lt) := Lib.hid rfl
      cases hb : bst rs i with
      | none =>
        rw [hb] at HL
        unfold bstV
        go_wp2
        go_ret
        rw [HL.out]
        exact ⟨rfl, X.out⟩
      | some p =>
        obtain ⟨k, q⟩ := p
        obtain ⟨hk, hq⟩ := bst_is hb
        obtain ⟨L, off, rfl, hq2⟩ := rul_at HR.out hq
        obtain ⟨q0, q1, q2, q3, q4, q5, q6, q7, q8, q9, q10⟩ := (hq2.next X.out).cells
        have hkk : (k : Int) < (i : Int) := by omega
        have hk0 : decide ((k : Int) < 0) = false := by simp
        rw [hb] at HL
        clear hb hq hq2
        unfold bstV
        go_wp2
        go_ret
        rw [HL.out]
        exact ⟨rfl, X.out⟩
end Go.Proofs.YtblamffdlclomaaDoor

namespace Go.Proofs.YtblamffdlclomaaDoor
open Go Go.RowKit Go.Sort

def corI (a b : Int) : Int := if a = 0 then b else a
theorem cor_is (a b v : Int) (B : Nat) (w : World) (h0 : w.cell? ⟨B, 0, none⟩ = some (.int .i64 a)) (h1 : w.cell? ⟨B, 1, none⟩ = some (.int .i64 b)) (hv : corI a b = v) :
    Calls Tryd.prog 20 #[.slice (some ⟨B, 0, none⟩) 2 2] w fun e w' => e = .returned (.int .i64 v) ∧ w = w' := by
  have HV := Lib.hid hv
  clear hv
  go_enter Tryd.func20, Tryd.ntmps20
  go_wp2
  go_loop [8] (fun t => t = .int .i64 0 ∨ (t = .int .i64 1 ∧ a = 0) ∨ (t = .int .i64 2 ∧ a = 0 ∧ b = 0)) (fun t => (2 - intOf t).toNat)
  case atStart => exact .inl rfl
  case round =>
    rcases hrel with rfl | ⟨rfl, ha⟩ | ⟨rfl, ha, hb⟩
    · by_cases ha : a = 0
      · have e1 : (a != 0) = false := by simp [ha]
        have HA := Lib.hid ha
        clear ha
        go_wp2
        go_round
        case rel => exact .inr (.inl ⟨rfl, HA.out⟩)
        case measure => simp [intOf]
      · have e1 : (a != 0) = true := by simp [ha]
        have HC : Hid (v = a) := by show v = a; rw [← HV.out, corI, if_neg ha]
        clear ha
        go_wp2
        go_ret
        rw [HC.out]
        exact ⟨rfl, rfl⟩
    · have HC : Hid (v = b) := by show v = b; rw [← HV.out, corI, if_pos ha]
      have HA := Lib.hid ha
      clear ha
      by_cases hb : b = 0
      · have e1 : (b != 0) = false := by simp [hb]
        have HB := Lib.hid hb
        clear hb
        go_wp2
        go_round
        case rel => exact .inr (.inr ⟨rfl, HA.out, HB.out⟩)
        case measure => simp [intOf]
      · have e1 : (b != 0) = true := by simp [hb]
        clear hb
        go_wp2
        go_ret
        rw [HC.out]
        exact ⟨rfl, rfl⟩
    · have HC : Hid (v = 0) := by show v = 0; rw [← HV.out, corI, if_pos ha, hb]
      clear ha hb
      go_wp2
      go_ret
      rw [HC.out]
      exact ⟨rfl, rfl⟩

theorem lbet_none (B : Nat) (p : Option Addr) (w : World) (h : w.heap[B]? = some (.cells #[.pointer none] 60 (0, 0))) :
    Calls Tryd.prog 19 #[.pointer p, .pointer (some ⟨B, 0, none⟩)] w fun e w' => e = .returned (.bool true) ∧ Below w.heap.size w w' := by
  have c0 := cel1 h
  go_enter Tryd.func19, Tryd.ntmps19
  go_wp2
  go_quiet (fail)
  go_wp2
  go_ret
  exact ⟨rfl, below_drewN (Below.refl _ _) _⟩

theorem cor_lt (r q : RV) : decide (corI (cmpI r.fr q.fr) (cmpI r.mo q.mo) < 0) = decide (bLt r q) := by
  apply decide_eq_decide.2
  unfold corI cmpI bLt
  repeat' split
  all_goals omega

set_option maxRecDepth 20000 in
set_option maxHeartbeats 8000000 in
theorem lbet_some (B L o o' : Nat) (r q : RV) (v : Bool) (w : World) (h : w.heap[B]? = some (.cells #[.pointer (some ⟨L, o', none⟩)] 60 (0, 0))) (hr : RulAt L o r w) (hq : RulAt L o' q w) (hv : decide (bLt r q) = v) :
    Calls Tryd.prog 19 #[.pointer (some ⟨L, o, none⟩), .pointer (some ⟨B, 0, none⟩)] w fun e w' => e = .returned (.bool v) ∧ Below w.heap.size w w' := by
  have c0 := cel1 h
  obtain ⟨-, r1, -, r3, -⟩ := hr.cells
  obtain ⟨-, q1, -, q3, -⟩ := hq.cells
  rw [← cor_lt] at hv
  obtain ⟨a, ha⟩ : ∃ a, cmpI r.fr q.fr = a := ⟨_, rfl⟩
  obtain ⟨b, hb⟩ : ∃ b, cmpI r.mo q.mo = b := ⟨_, rfl⟩
  obtain ⟨c, hc⟩ : ∃ c, corI a b = c := ⟨_, rfl⟩
  rw [ha, hb, hc] at hv
  have C1 := Lib.hid fun W => fcmp_is r.fr q.fr a W ha
  have C2 := Lib.hid fun W => fcmp_is r.mo q.mo b W hb
  have D := Lib.hid (BlkN.make (Below.refl w.heap.size w) #[.int .i64 a, .int .i64 b] 3).drew
  have C3 := Lib.hid (cor_is a b c w.heap.size _ (cel2 D.out.blk).1 (cel2 D.out.blk).2 hc)
  have HV := Lib.hid hv
  clear ha hb hc hv h hr hq
  go_enter Tryd.func19, Tryd.ntmps19
  go_wp2
  go_region_held3 (fun w' => w'.cell? ⟨B, 0, none⟩ = some (.pointer (some ⟨L, o', none⟩)) ∧ w'.cell? ⟨L, o + 1, none⟩ = some (.int .i64 r.fr) ∧ w'.cell? ⟨L, o + 3, none⟩ = some (.int .i64 r.mo) ∧ w'.cell? ⟨L, o' + 1, none⟩ = some (.int .i64 q.fr) ∧ w'.cell? ⟨L, o' + 3, none⟩ = some (.int .i64 q.mo)) (first | exact ⟨c0, r1, r3, q1, q3⟩ | go_keep)
    (first
      | (go_at_call 21; (with_reducible refine (C1.out _).mono ?_); (rintro e w1 ⟨rfl, rfl⟩); simp only [])
      | (go_at_call 21; (with_reducible refine (C2.out _).mono ?_); (rintro e w1 ⟨rfl, rfl⟩); simp only [])
      | (go_at_call 20; (with_reducible refine C3.out.mono ?_); (rintro e w2 ⟨rfl, rfl⟩); simp only []))
  go_wp2
  go_ret
  rw [HV.out]
  exact ⟨rfl, by first | exact D.out.bel | exact D.out.drew.bel⟩
end Go.Proofs.YtblamffdlclomaaDoor

namespace Go.Proofs.YtblamffdlclomaaDoor
open Go Go.RowKit Go.Sort

theorem BlkN.set1 {w W : World} {g : Nat} {t : TypeId} {a x : Value} (h : BlkN w g #[a] t W) : BlkN w g #[x] t (W.setCell ⟨g, 0, none⟩ x) :=
  ⟨h.bel.setCell (p := ⟨g, 0, none⟩) h.ge _, h.ge, by
    have := blk_set (i := 0) h.blk x
    simpa using this⟩
/-- The pointer to the best rule of the first ones. -/
def bstP (L off : Nat) : Option (Nat × RV) → Value
  | none => .pointer none
  | some (k, _) => .pointer (some ⟨L, off + k * 11, none⟩)

set_option maxRecDepth 20000 in
set_option maxHeartbeats 8000000 in
theorem fletter_no (w : World) (c0 : Nat) (A0 : Option Addr) :
    Calls Tryd.prog 11 #[.slice A0 0 c0] w fun e w' => e = .returned (.string ⟨#[]⟩) ∧ Below w.heap.size w w' := by
  have X0 := Lib.hid (BlkN.make (Below.refl w.heap.size w) #[.pointer none] 60)
  have g0 := cel1 X0.out.blk
  go_enter Tryd.func11, Tryd.ntmps11
  go_wp2
  go_loopw [10] (fun v wr => v = .int .i64 0 ∧ BlkN w w.heap.size #[.pointer none] 60 wr) (fun v _ => 0)
  case atStart => exact ⟨rfl, X0.out⟩
  case round =>
    clear X0 g0
    obtain ⟨rfl, hX⟩ := hrel
    have X := Lib.hid hX
    have g0 := cel1 hX.blk
    clear hX
    go_wp2
    go_ret
    exact ⟨rfl, X.out.bel⟩

set_option maxRecDepth 20000 in
set_option maxHeartbeats 8000000 in
theorem fletter_in (L off n c0 : Nat) (rs : List RV) (w : World) (hR : RowsAt 11 cR (some ⟨L, off, none⟩) rs w) (hn : rs.length = n) (hn1 : n ≤ 1000) :
    Calls Tryd.prog 11 #[.slice (some ⟨L, off, none⟩) n c0] w fun e w' => e = .returned (.string ⟨(ltrL rs n).toArray⟩) ∧ Below w.heap.size w w' := by
  have HR := Lib.hid hR
  have HN := Lib.hid hn
  have X0 := Lib.hid (BlkN.make (Below.refl w.heap.size w) #[.pointer none] 60)
  have g0 := cel1 X0.out.blk
  clear hR hn
  go_enter Tryd.func11, Tryd.ntmps11
  go_wp2
  go_loopw [10] (fun v wr => ∃ i : Nat, v = .int .i64 i ∧ i ≤ n ∧ BlkN w w.heap.size #[bstP L off (bst rs i)] 60 wr) (fun v _ => n - (intOf v).toNat)
  case atStart => exact ⟨0, rfl, Nat.zero_le _, X0.out⟩
  case round =>
    clear X0 g0
    obtain ⟨i, rfl, i1, hX⟩ := hrel
    have X := Lib.hid hX
    clear hX
    by_cases hlt : i < n
    · have hii : (i : Int) < (n : Int) := by omega
      obtain ⟨r, hr⟩ : ∃ r, rs[i]? = some r := ⟨_, List.getElem?_eq_getElem (by rw [HN.out]; exact hlt)⟩
      obtain ⟨L', off', e, hrul⟩ := rul_at HR.out hr
      cases e
      obtain ⟨r0, r1, r2, r3, r4, r5, r6, r7, r8, r9, r10⟩ := (hrul.next X.out.bel).cells
      have RU := Lib.hid (hrul.next X.out.bel)
      have HRI := Lib.hid hr
      clear hr hrul
      by_cases h0 : r.sv = 0
      · have z0 : (r.sv == 0) = true := by simp [h0]
        have H0 := Lib.hid h0
        clear h0
        cases hb : bst rs i with
        | none =>
          have HB := Lib.hid (bst_new HRI.out H0.out hb)
          rw [hb] at X
          have BT := Lib.hid fun p => lbet_none w.heap.size p wr X.out.blk
          clear hb
          go_wp2_with (go_at_call 19; (with_reducible refine (BT.out _).mono ?_); (rintro e w1 ⟨rfl, k1⟩); have X1 := Lib.hid (X.out.next k1); have f1 := frz (j := 0) X1.out.blk; have g1 := cel1 X1.out.blk; clear k1; simp only [])
          go_round
          case rel => exact ⟨i + 1, rfl, by omega, by rw [HB.out]; exact X1.out.set1⟩
          case measure => simp [intOf]; omega
        | some p =>
          obtain ⟨k, q⟩ := p
          obtain ⟨hk, hq⟩ := bst_is hb
          obtain ⟨L', off', e, hq2⟩ := rul_at HR.out hq
          cases e
          have RQ := Lib.hid (hq2.next X.out.bel)
          have HY := Lib.hid (bst_yes HRI.out H0.out hb)
          have HO := Lib.hid (bst_old HRI.out H0.out hb)
          rw [hb] at X
          clear hb hq hq2
          by_cases c1 : bLt r q
          · have HB := Lib.hid (HY.out c1)
            have BT := Lib.hid (lbet_some w.heap.size L (off + i * 11) (off + k * 11) r q true wr X.out.blk RU.out RQ.out (decide_eq_true c1))
            clear c1
            go_wp2_with (go_at_call 19; (with_reducible refine BT.out.mono ?_); (rintro e w1 ⟨rfl, k1⟩); have X1 := Lib.hid (X.out.next k1); have f1 := frz (j := 0) X1.out.blk; have g1 := cel1 X1.out.blk; clear k1; simp only [])
            go_round
            case rel => exact ⟨i + 1, rfl, by omega, by rw [HB.out]; exact X1.out.set1⟩
            case measure => simp [intOf]; omega
          · have HB := Lib.hid (HO.out c1)
            have BT := Lib.hid (lbet_some w.heap.size L (off + i * 11) (off + k * 11) r q false wr X.out.blk RU.out RQ.out (decide_eq_false c1))
            clear c1
            go_wp2_with (go_at_call 19; (with_reducible refine BT.out.mono ?_); (rintro e w1 ⟨rfl, k1⟩); have X1 := Lib.hid (X.out.next k1); clear k1; simp only [])
            go_round
            case rel => exact ⟨i + 1, rfl, by omega, by rw [HB.out]; exact X1.out⟩
            case measure => simp [intOf]; omega
      · have z0 : (r.sv == 0) = false := by simp [h0]
        have HB := Lib.hid (bst_no HRI.out h0)
        clear h0
        go_wp2
        go_round
        case rel => exact ⟨i + 1, rfl, by omega, by rw [HB.out]; exact X.out⟩
        case measure => simp [intOf]; omega
    · obtain rfl : i = n := by omega
      have HL : Hid (ltrL rs i = match bst rs i with | none => [] | some (_, q) => q.lt) := Lib.hid rfl
      cases hb : bst rs i with
      | none =>
        rw [hb] at HL X
        have g0 := cel1 X.out.blk
        clear hb
        unfold bstP at g0
        go_wp2
        go_ret
        rw [HL.out]
        exact ⟨rfl, X.out.bel⟩
      | some p =>
        obtain ⟨k, q⟩ := p
        obtain ⟨hk, hq⟩ := bst_is hb
        obtain ⟨L', off', e, hq2⟩ := rul_at HR.out hq
        cases e
        obtain ⟨q0, q1, q2, q3, q4, q5, q6, q7, q8, q9, q10⟩ := (hq2.next X.out.bel).cells
        rw [hb] at HL X
        have g0 := cel1 X.out.blk
        clear hb hq hq2
        unfold bstP at g0
        go_wp2
        go_ret
        rw [HL.out]
        exact ⟨rfl, X.out.bel⟩
end Go.Proofs.YtblamffdlclomaaDoor

namespace Go.Proofs.YtblamffdlclomaaDoor
open Go Go.RowKit Go.Sort

set_option maxRecDepth 20000 in
set_option maxHeartbeats 2000000 in
theorem xplain_is (f : FV) (i : Nat) (w : World) :
    Calls Tryd.prog 9 #[fvV f, .int .i64 (i : Int)] w fun e w' => e = .returned (pvV (f, i)) ∧ Below w.heap.size w w' := by
  have X : Hid (TwoB w w.heap.size #[.int .i64 f.nm, .int .i64 f.kd, .int .i64 f.sv, .string ⟨f.lt.toArray⟩] 36 (w.heap.size + 1) #[.int .i64 0, .int .i64 0, .int .i64 0, .int .i64 0, .string ⟨#[]⟩] 33 ((w.alloc (.cells #[.int .i64 f.nm, .int .i64 f.kd, .int .i64 f.sv, .string ⟨f.lt.toArray⟩] 36)).alloc (.cells #[.int .i64 0, .int .i64 0, .int .i64 0, .int .i64 0, .string ⟨#[]⟩] 33))) :=
    ⟨BlkN.fst (w := w) _ 36 _, BlkN.two w _ _ _⟩
  obtain ⟨x0, x1, x2, x3⟩ := cel4 X.out.a.blk
  obtain ⟨y0, y1, y2, y3, y4⟩ := cells5 X.out.b.blk
  have f0 := frz (j := 0) X.out.b.blk
  have f1 := frz (j := 1) X.out.b.blk
  have f2 := frz (j := 2) X.out.b.blk
  have f3 := frz (j := 3) X.out.b.blk
  have f4 := frz (j := 4) X.out.b.blk
  have Z := Lib.hid (BlkN.two w (.cells #[.int .i64 f.nm, .int .i64 f.kd, .int .i64 f.sv, .string ⟨f.lt.toArray⟩] 36) #[.int .i64 f.nm, .int .i64 f.kd, .int .i64 f.sv, .int .i64 (i : Int), .string ⟨f.lt.toArray⟩] 33)
  unfold fvV
  go_enter Tryd.func9, Tryd.ntmps9
  repeat (first | go_values | go_skip | go_guarded | go_step | go_upon | go_back)
  refine Z.out.ret fun W' B => ?_
  obtain ⟨c0, c1, c2, c3, c4⟩ := cells5 B.blk
  refine bodyPost_ret (by simp [results, Tryd.results9, go_sem, c0, c1, c2, c3, c4]; rfl) rfl ⟨rfl, B.bel⟩
set_option maxRecDepth 20000 in
set_option maxHeartbeats 2000000 in
theorem xplain_grown (f : FV) (i : Nat) (w : World) :
    Calls Tryd.prog 9 #[fvV f, .int .i64 (i : Int)] w fun e w' => e = .returned (pvV (f, i)) ∧ ∃ q os, w' = grow (w.drewN q) os := by
  have X : Hid (TwoB w w.heap.size #[.int .i64 f.nm, .int .i64 f.kd, .int .i64 f.sv, .string ⟨f.lt.toArray⟩] 36 (w.heap.size + 1) #[.int .i64 0, .int .i64 0, .int .i64 0, .int .i64 0, .string ⟨#[]⟩] 33 ((w.alloc (.cells #[.int .i64 f.nm, .int .i64 f.kd, .int .i64 f.sv, .string ⟨f.lt.toArray⟩] 36)).alloc (.cells #[.int .i64 0, .int .i64 0, .int .i64 0, .int .i64 0, .string ⟨#[]⟩] 33))) :=
    ⟨BlkN.fst (w := w) _ 36 _, BlkN.two w _ _ _⟩
  obtain ⟨x0, x1, x2, x3⟩ := cel4 X.out.a.blk
  obtain ⟨y0, y1, y2, y3, y4⟩ := cells5 X.out.b.blk
  have f0 := frz (j := 0) X.out.b.blk
  have f1 := frz (j := 1) X.out.b.blk
  have f2 := frz (j := 2) X.out.b.blk
  have f3 := frz (j := 3) X.out.b.blk
  have f4 := frz (j := 4) X.out.b.blk
  have Z := Lib.hid (BlkN.two w (.cells #[.int .i64 f.nm, .int .i64 f.kd, .int .i64 f.sv, .string ⟨f.lt.toArray⟩] 36) #[.int .i64 f.nm, .int .i64 f.kd, .int .i64 f.sv, .int .i64 (i : Int), .string ⟨f.lt.toArray⟩] 33)
  have e0 : ((w.alloc (.cells #[.int .i64 f.nm, .int .i64 f.kd, .int .i64 f.sv, .string ⟨f.lt.toArray⟩] 36)).alloc (.cells #[.int .i64 f.nm, .int .i64 f.kd, .int .i64 f.sv, .int .i64 (i : Int), .string ⟨f.lt.toArray⟩] 33)) = grow (w.drewN 0) (#[.cells #[.int .i64 f.nm, .int .i64 f.kd, .int .i64 f.sv, .string ⟨f.lt.toArray⟩] 36] ++ #[.cells #[.int .i64 f.nm, .int .i64 f.kd, .int .i64 f.sv, .int .i64 (i : Int), .string ⟨f.lt.toArray⟩] 33]) := by
    rw [alloc_eq_grow, alloc_eq_grow, grow_grow]; rfl
  have E0 := Lib.hid (show ∃ q os, _ = grow (w.drewN q) os from ⟨0, _, e0⟩)
  clear e0
  unfold fvV
  go_enter Tryd.func9, Tryd.ntmps9
  repeat (first | go_values | go_skip | go_guarded | go_step | go_upon | go_back)
  obtain ⟨c0, c1, c2, c3, c4⟩ := cells5 Z.out.blk
  refine bodyPost_ret (by simp [results, Tryd.results9, go_sem, c0, c1, c2, c3, c4]; rfl) rfl ⟨rfl, E0.out⟩
theorem below_grow {w W : World} (h : Below w.heap.size w W) (n : Nat) (os : Array Obj) : Below w.heap.size w (grow (W.drewN n) os) :=
  ⟨h.os, h.tape, h.output, by show w.heap.size ≤ (W.heap ++ os).size; rw [Array.size_append]; exact Nat.le_trans h.size (Nat.le_add_right _ _), fun k hk => by
    show (W.heap ++ os)[k]? = _
    rw [Array.getElem?_append_left (Nat.lt_of_lt_of_le hk h.size)]
    exact h.block k hk⟩
end Go.Proofs.YtblamffdlclomaaDoor

/- The contracts of fire.In, of the law's Small, and of its awake.
How many firings rules have in years, and in parts of them: plain facts; no program is named. -/
import Derived.Test.YtdmfgechoanmlaaGreatDoorMZL
namespace Go.Proofs.YtdmfgechoanmlaaGreatDoor
open Go Go.RowKit

/-- Firings in memory. -/
def FirsAt (A : Option Addr) (fs : List FV) (w : World) : Prop := RowsAt 4 (fun f => (cF f).toArray) A fs w
def InIs (fs : List FV) (w : World) (e : Ending) (w' : World) : Prop := ∃ A c, e = .returned (.tuple #[.slice A fs.length c, .int .i64 0]) ∧ FirsAt A fs w' ∧ Below w.heap.size w w'
theorem fin_yes (A0 : Option Addr) (n c0 : Nat) (rs : List RV) (a b : Int) (w : World) (hA : LaidF w) (hR : RowsAt 11 cR A0 rs w) (hn : rs.length = n) (hn1 : n ≤ 1000) (hok : ∀ r ∈ rs, okR r) (ha : -99000 ≤ a) (hb : b ≤ 99000) (hab : a ≤ b) (hab2 : b - a < 4000) :
    Calls Tryz.prog 122 #[.slice A0 n c0, .int .i64 a, .int .i64 b] w (InIs (iso (ltOf cfF) (allF rs a b)) w) := by
  have h1 : ¬ a < -100000 := by omega
  have h2 : ¬ b > 100000 := by omega
  have h3 : ¬ b < a := by omega
  have h4 : IntKind.i64.wrap (b - a) = b - a := IntWalk.i64_in _ (by omega)
  have h5 : ¬ b - a ≥ 4000 := by omega
  have OR := Lib.hid (callsIn_wide.1 (forder_in A0 n c0 rs a b w hA hR hn hn1 hok ha hb (by omega) 5 (Nat.le_refl _)))
  clear hA hR hn hok ha hb hab hab2
  go_enter Tryz.func122, Tryz.ntmps122
  repeat (first
    | (go_at_call 141; refine OR.out.mono ?_; (rintro e w1 ⟨A, c, rfl, q1, q2, -⟩); simp only [])
    | go_values | go_skip | go_guarded | go_step | go_upon | go_back)
  go_ret2
  exact ⟨A, c, by rw [iso_len]; rfl, q1, q2⟩
theorem fin_no (l : Value) (a b : Int) (w : World) (ha : -99000 ≤ a) (hb : b ≤ 99000) (hab : b < a) :
    Calls Tryz.prog 122 #[l, .int .i64 a, .int .i64 b] w fun e w' => e = .returned (.tuple #[.slice none 0 0, .int .i64 10]) ∧ w = w' := by
  have h1 : ¬ a < -100000 := by omega
  have h2 : ¬ b > 100000 := by omega
  have h3 : b < a := by omega
  go_enter Tryz.func122, Tryz.ntmps122
  repeat (first | go_values | go_skip | go_guarded | go_step | go_upon | go_back)
  go_ret2
  exact ⟨rfl, rfl⟩

/-- What the law takes for few, near rules. -/
def SmR (r : RV) : Prop := 1900 ≤ r.fr ∧ r.fr ≤ 2100 ∧ r.fr ≤ r.tl ∧ 1 ≤ r.mo ∧ r.mo ≤ 12 ∧ -172800 ≤ r.sc ∧ r.sc ≤ 259200 ∧ 0 ≤ r.ck ∧ r.ck ≤ 2 ∧ dfD r.dk r.dw r.dn
def SmF (rs : List RV) : Prop := rs.length ≤ 6 ∧ ∀ r ∈ rs, SmR r
theorem SmR.ok {r : RV} (h : SmR r) : okR r := ⟨h.2.2.2.2.2.2.2.2.2, h.2.2.2.1, h.2.2.2.2.1, by have := h.2.2.2.2.2.1; omega, by have := h.2.2.2.2.2.2.1; omega⟩

theorem wake_r : okR ⟨[69, 85], 2000, 1048576, 3, 1, 0, 0, 3600, 2, 3600, [83]⟩ := ⟨by show dfD 1 0 0; unfold dfD; omega, by decide, by decide, by decide, by decide⟩
theorem wake_a : OfA ⟨[69, 85], 2000, 1048576, 3, 1, 0, 0, 3600, 2, 3600, [83]⟩ 2000 ⟨954032400, 2, 3600, [83]⟩ true := .inl ⟨rfl, by decide, by decide⟩
theorem wake_b : OfA ⟨[69, 85], 2000, 1048576, 3, 1, 0, 0, 3600, 2, 3600, [83]⟩ 1999 noF false := .inr ⟨rfl, by decide, rfl⟩
/-- Whether rules are few and near. -/
theorem retb2 {a b : Bool} (h : a = b) : Ending.returned (.bool a) = .returned (.bool b) := by rw [h]
theorem dfE_ok {k wk n : Int} : dfE k wk n = 0 ↔ dfD k wk n := by
  unfold dfE
  cases h : dfB k wk n
  · simp; intro hd; rw [dfB_iff.2 hd] at h; cases h
  · simp; exact dfB_iff.1 h
set_option maxRecDepth 20000 in
set_option maxHeartbeats 8000000 in
theorem fsmall_is (A0 : Option Addr) (n c0 : Nat) (rs : List RV) (v : Bool) (w : World) (hR : RowsAt 11 cR A0 rs w) (hn : rs.length = n) (hn1 : n ≤ 9223372036854775807) (hv : Hid ((v = true ∧ SmF rs) ∨ (v = false ∧ ¬ SmF rs))) :
    Calls Tryz.prog 46 #[.slice A0 n c0] w fun e w' => e = .returned (.bool v) ∧ Below w.heap.size w w' := by
  have HRW := Lib.hid hR
  have HN := Lib.hid hn
  have NO : Hid (¬ SmF rs → false = v) := Lib.hid fun h => by
    rcases hv.out with ⟨-, g⟩ | ⟨g, -⟩
    · exact absurd g h
    · exact g.symm
  have YES : Hid (SmF rs → true = v) := Lib.hid fun h => by
    rcases hv.out with ⟨g, -⟩ | ⟨-, g⟩
    · exact g.symm
    · exact absurd h g
  have X0 := Lib.hid (Below.refl w.heap.size w)
  clear hR hn hv
  go_enter Tryz.func46, Tryz.ntmps46
  repeat (first | go_values | go_skip | go_guarded | go_step | go_upon | go_back)
  go_loopw [3] (fun vi wr => ∃ i : Nat, vi = .int .i64 i ∧ i ≤ n ∧ (∀ j r, j < i → rs[j]? = some r → SmR r) ∧ Below w.heap.size w wr) (fun vi _ => n - (intOf vi).toNat)
  case atStart => exact ⟨0, rfl, Nat.zero_le _, fun j z h => absurd h (by omega), X0.out⟩
  case round =>
    clear X0
    obtain ⟨i, rfl, i1, ha, hX⟩ := hrel
    have NA := Lib.hid ha
    have X := Lib.hid hX
    clear ha hX
    by_cases hlt : i < n
    · have hii : (i : Int) < (n : Int) := by omega
      obtain ⟨r, hr⟩ : ∃ r, rs[i]? = some r := ⟨_, List.getElem?_eq_getElem (by rw [HN.out]; exact hlt)⟩
      obtain ⟨L, off, rfl, hrul⟩ := rul_at HRW.out hr
      obtain ⟨r0, r1, r2, r3, r4, r5, r6, r7, r8, r9, r10⟩ := (hrul.next X.out).cells
      have HR := Lib.hid hr
      have CK : Hid (∀ W, Calls Tryz.prog 26 #[.agg #[.int .i64 r.dk, .int .i64 r.dw, .int .i64 r.dn]] W fun e w' => e = .returned (.int .i64 (dfE r.dk r.dw r.dn)) ∧ Below W.heap.size W w') := fun W => dcheck_is _ _ _ _ W rfl
      clear hr hrul
      by_cases q0 : r.fr < 1900
      · have R := Lib.hid (NO.out (fun h => by have := h.2 r (List.mem_of_getElem? HR.out); unfold SmR at this; omega))
        repeat (first | go_values | go_skip | go_guarded | go_step | go_upon | go_back)
        go_ret
        exact ⟨retb2 R.out, X.out.alloc X.out.size _⟩
      by_cases q1 : r.fr > 2100
      · have R := Lib.hid (NO.out (fun h => by have := h.2 r (List.mem_of_getElem? HR.out); unfold SmR at this; omega))
        repeat (first | go_values | go_skip | go_guarded | go_step | go_upon | go_back)
        go_ret
        exact ⟨retb2 R.out, X.out.alloc X.out.size _⟩
      by_cases q2 : r.tl < r.fr
      · have R := Lib.hid (NO.out (fun h => by have := h.2 r (List.mem_of_getElem? HR.out); unfold SmR at this; omega))
        repeat (first | go_values | go_skip | go_guarded | go_step | go_upon | go_back)
        go_ret
        exact ⟨retb2 R.out, X.out.alloc X.out.size _⟩
      by_cases q3 : r.mo < 1
      · have R := Lib.hid (NO.out (fun h => by have := h.2 r (List.mem_of_getElem? HR.out); unfold SmR at this; omega))
        repeat (first | go_values | go_skip | go_guarded | go_step | go_upon | go_back)
        go_ret
        exact ⟨retb2 R.out, X.out.alloc X.out.size _⟩
      by_cases q4 : r.mo > 12
      · have R := Lib.hid (NO.out (fun h => by have := h.2 r (List.mem_of_getElem? HR.out); unfold SmR at this; omega))
        repeat (first | go_values | go_skip | go_guarded | go_step | go_upon | go_back)
        go_ret
        exact ⟨retb2 R.out, X.out.alloc X.out.size _⟩
      by_cases q5 : r.sc < -172800
      · have R := Lib.hid (NO.out (fun h => by have := h.2 r (List.mem_of_getElem? HR.out); unfold SmR at this; omega))
        repeat (first | go_values | go_skip | go_guarded | go_step | go_upon | go_back)
        go_ret
        exact ⟨retb2 R.out, X.out.alloc X.out.size _⟩
      by_cases q6 : r.sc > 259200
      · have R := Lib.hid (NO.out (fun h => by have := h.2 r (List.mem_of_getElem? HR.out); unfold SmR at this; omega))
        repeat (first | go_values | go_skip | go_guarded | go_step | go_upon | go_back)
        go_ret
        exact ⟨retb2 R.out, X.out.alloc X.out.size _⟩
      by_cases q7 : r.ck < 0
      · have R := Lib.hid (NO.out (fun h => by have := h.2 r (List.mem_of_getElem? HR.out); unfold SmR at this; omega))
        repeat (first | go_values | go_skip | go_guarded | go_step | go_upon | go_back)
        go_ret
        exact ⟨retb2 R.out, X.out.alloc X.out.size _⟩
      by_cases q8 : r.ck > 2
      · have R := Lib.hid (NO.out (fun h => by have := h.2 r (List.mem_of_getElem? HR.out); unfold SmR at this; omega))
        repeat (first | go_values | go_skip | go_guarded | go_step | go_upon | go_back)
        go_ret
        exact ⟨retb2 R.out, X.out.alloc X.out.size _⟩
      obtain ⟨v0, hv0⟩ : ∃ v0, dfE r.dk r.dw r.dn = v0 := ⟨_, rfl⟩
      have HV := Lib.hid hv0
      rw [hv0] at CK
      clear hv0
      by_cases q9 : v0 = 0
      · subst q9
        have ok : SmR r := ⟨by omega, by omega, by omega, by omega, by omega, by omega, by omega, by omega, by omega, dfE_ok.1 HV.out⟩
        have S : Hid (∀ j r', j < i + 1 → rs[j]? = some r' → SmR r') := Lib.hid fun j r' hj hr' => by
          by_cases hji : j < i
          · exact NA.out j r' hji hr'
          · obtain rfl : j = i := by omega
            rw [HR.out] at hr'; injection hr' with hr'; rw [← hr']; exact ok
        repeat (first
          | (go_at_call 26; (with_reducible refine (CK.out _).mono ?_); (rintro e w1 ⟨rfl, k1⟩); simp only [])
          | go_values | go_skip | go_guarded | go_step | go_upon | go_back)
        go_roundw
        case rel => exact ⟨i + 1, by go_num, by omega, S.out, X.out.trans ((Below.refl _ _).alloc X.out.size _) |>.trans (k1.mono (by have := X.out.size; simp; omega))⟩
        case measure => simp [intOf]; omega
      · have q9' : (v0 == 0) = false := by simp [q9]
        have R := Lib.hid (NO.out (fun h => q9 (by rw [← HV.out]; exact dfE_ok.2 (h.2 r (List.mem_of_getElem? HR.out)).2.2.2.2.2.2.2.2.2)))
        repeat (first
          | (go_at_call 26; (with_reducible refine (CK.out _).mono ?_); (rintro e w1 ⟨rfl, k1⟩); simp only [])
          | go_values | go_skip | go_guarded | go_step | go_upon | go_back)
        go_ret
        exact ⟨retb2 R.out, X.out.trans ((Below.refl _ _).alloc X.out.size _) |>.trans (k1.mono (by have := X.out.size; simp; omega))⟩
    · obtain rfl : i = n := by omega
      have hii : ¬ ((i : Nat) : Int) < (i : Int) := by omega
      by_cases h6 : i ≤ 6
      · have h6z : (i : Int) ≤ 6 := by omega
        have R := Lib.hid (YES.out ⟨by rw [HN.out]; exact h6, fun r hr => by
          obtain ⟨j, hj, e⟩ := List.mem_iff_getElem.1 hr
          exact NA.out j r (by have := HN.out; omega) (by rw [← e]; exact List.getElem?_eq_getElem hj)⟩)
        repeat (first | go_values | go_skip | go_guarded | go_step | go_upon | go_back)
        go_ret
        exact ⟨retb2 (by simpa [h6z] using R.out), X.out⟩
      · have h6z : ¬ (i : Int) ≤ 6 := by omega
        have R := Lib.hid (NO.out (fun h => h6 (by rw [← HN.out]; exact h.1)))
        repeat (first | go_values | go_skip | go_guarded | go_step | go_upon | go_back)
        go_ret
        exact ⟨retb2 (by simpa [h6z] using R.out), X.out⟩
end Go.Proofs.YtdmfgechoanmlaaGreatDoor

namespace Go.Proofs.YtdmfgechoanmlaaGreatDoor
open Go Go.RowKit

theorem frL_add (r : RV) (a : Int) (m n : Nat) : frL r a (m + n) = frL r a m ++ frL r (a + m) n := by
  induction n with
  | zero => simp [frL]
  | succ n ih => rw [← Nat.add_assoc, frL, frL, ih, List.append_assoc, show a + ((m + n : Nat) : Int) = a + m + (n : Int) by omega]
theorem frA_eq (r : RV) {a b : Int} (ha : -99000 ≤ a) (hb : b ≤ 99000) : frA r a b = frL r a (b + 1 - a).toNat := by
  unfold frA
  have e1 : max (max a r.fr) (-100000) = max a r.fr := by omega
  have e2 : min (min b r.tl) 100000 = min b r.tl := by omega
  rw [e1, e2]
  by_cases h : max a r.fr ≤ min b r.tl
  · have e3 : (b + 1 - a).toNat = ((max a r.fr - a).toNat + (min b r.tl + 1 - max a r.fr).toNat) + (b - min b r.tl).toNat := by omega
    rw [e3, frL_still (r := r) (F := a) (m := (max a r.fr - a).toNat + (min b r.tl + 1 - max a r.fr).toNat) (by omega) (fun k h1 h2 hf => by
      have := hf.2.1
      omega)]
    exact (frL_from (by omega) fun y h1 h2 hf => by have := hf.1; omega).symm
  · have e := frL_still (r := r) (F := a) (m := 0) (n := (b + 1 - a).toNat) (Nat.zero_le _) fun k h1 h2 hf => by
      have := hf.1
      have := hf.2.1
      omega
    rw [show (min b r.tl + 1 - max a r.fr).toNat = 0 by omega, e]
    rfl
theorem frA_split (r : RV) {a b c : Int} (ha : -99000 ≤ a) (hc : c ≤ 99000) (h1 : a ≤ b) (h2 : b < c) : frA r a c = frA r a b ++ frA r (b + 1) c := by
  rw [frA_eq r ha hc, frA_eq r ha (by omega), frA_eq r (by omega) hc, show (c + 1 - a).toNat = (b + 1 - a).toNat + (c + 1 - (b + 1)).toNat by omega, frL_add, show a + (((b + 1 - a).toNat : Nat) : Int) = b + 1 by omega]
theorem allF_split (rs : List RV) {a b c : Int} (ha : -99000 ≤ a) (hc : c ≤ 99000) (h1 : a ≤ b) (h2 : b < c) : (allF rs a c).length = (allF rs a b).length + (allF rs (b + 1) c).length := by
  induction rs with
  | nil => rfl
  | cons r rs ih =>
    show ((frA r a c).map Prod.snd ++ allF rs a c).length = ((frA r a b).map Prod.snd ++ allF rs a b).length + ((frA r (b + 1) c).map Prod.snd ++ allF rs (b + 1) c).length
    rw [List.length_append, List.length_append, List.length_append, ih, frA_split r ha hc h1 h2]
    simp
    omega
theorem allF_one (r : RV) (a b : Int) : allF [r] a b = (frA r a b).map Prod.snd := by simp [allF]
theorem rows_one {A0 : Option Addr} {rs : List RV} {w : World} {i : Nat} {r : RV} (h : RowsAt 11 cR A0 rs w) (hr : rs[i]? = some r) {L off : Nat} (hA : A0 = some ⟨L, off, none⟩) : RowsAt 11 cR (some ⟨L, off + i * 11, none⟩) [r] w := by
  obtain ⟨L', off', e, hl, hc⟩ := h i r hr
  rw [hA] at e
  cases e
  intro j x hx
  cases j with
  | zero =>
    simp at hx; subst hx
    exact ⟨L, off + i * 11, rfl, hl, fun k v hk hv => by rw [Nat.zero_mul, Nat.add_zero]; exact hc k v hk hv⟩
  | succ j => simp at hx
theorem srt_at {fs : List FV} (h : Srt (Go.Proofs.ltOf cfF) fs) {i : Nat} {x y : FV} (hx : fs[i]? = some x) (hy : fs[i + 1]? = some y) : x.nm ≤ y.nm := by
  have := Srt.at wordF h (Nat.le_succ i) (List.getElem?_eq_some_iff.1 hy).1 hx hy
  rw [lt_cfF] at this
  simpa using this
theorem fir_cells {A : Option Addr} {fs : List FV} {w : World} {i : Nat} {f : FV} (h : FirsAt A fs w) (hf : fs[i]? = some f) : ∃ L off, A = some ⟨L, off, none⟩ ∧ L < w.heap.size ∧
    w.cell? ⟨L, off + i * 4, none⟩ = some (.int .i64 f.nm) ∧ w.cell? ⟨L, off + i * 4 + 1, none⟩ = some (.int .i64 f.kd) ∧ w.cell? ⟨L, off + i * 4 + 2, none⟩ = some (.int .i64 f.sv) ∧ w.cell? ⟨L, off + i * 4 + 3, none⟩ = some (.string ⟨f.lt.toArray⟩) := by
  obtain ⟨L, off, e, hl, hc⟩ := h i f hf
  exact ⟨L, off, e, hl, hc 0 _ (by omega) rfl, hc 1 _ (by omega) rfl, hc 2 _ (by omega) rfl, hc 3 _ (by omega) rfl⟩
end Go.Proofs.YtdmfgechoanmlaaGreatDoor
